/-
  Items, sources, keys that may be.
-/
import Derived.Test.YtfjimoccliejdaaGreatDoorE16
section
namespace Go.Proofs.YtfjimoccliejdaaGreatDoor
open Go.RowKit Go.Shelf

theorem cut_some_k {l : Lx.B} {t : Lx.Tok} {z : Nat} (h : Lx.cut l = some (t, z)) (hl : l ≠ []) : t.k ≠ 6 := (Lx.tok_k (Lx.cut_inv hl h).2.1).1
theorem cut_some_z {l : Lx.B} {t : Lx.Tok} {z : Nat} (h : Lx.cut l = some (t, z)) (hl : l ≠ []) : z ≤ l.length := (Lx.cut_inv hl h).1
set_option maxRecDepth 100000 in
set_option maxHeartbeats 4000000 in
theorem refAll_any (s : ByteArray) (w : World) (hs : s.size ≤ 16384) :
  Calls Tryz.prog 20 #[.string s] w fun e w' => ∃ v, e = .returned v ∧ AllV w.heap.size w' (Lx.lx (s.size + 1) (bs s) 0 0) v ∧ Below w.heap.size w w' := by
 obtain ⟨i0, hi, hz0, hz1, hz2⟩ := infoX_parts info_tok
 obtain ⟨R, hR⟩ : ∃ R, Lx.lx (s.size + 1) (bs s) 0 0 = R := ⟨_, rfl⟩
 rw [hR]
 have HR := Lib.hid hR
 have hsI : ¬ ((16384 : Int) < (s.size : Int)) := by omega
 have hk0 := Lx.sk_le false (bs s)
 rw [bs_len] at hk0
 clear hR
 go_enter Tryz.func20, Tryz.ntmps20
 go_wp2_with fail
 refine (refSkip_any s 0 w (by omega) (Nat.zero_le _)).mono ?_
 rintro e w1 ⟨rfl, hb1⟩
 rw [List.drop_zero, Nat.zero_add]
 have HB1 := Lib.hid hb1
 clear hb1
 go_wp2_with fail
 go_loopw [5, 6] (fun v i W => ∃ (a p f : Nat) (ts : List TkA), p ≤ s.size ∧ Hid (a + Lx.sk false ((bs s).drop a) = p) ∧ s.size - a < f ∧ ts.length ≤ 4096 ∧ i = .int .i64 p ∧ Hid (Told w.heap.size w W v ts) ∧ Hid (R = Lx.pre ts (Lx.lx f ((bs s).drop a) ts.length a))) (fun _ i _ => s.size - (intOf i).toNat)
 case atStart =>
  refine ⟨0, Lx.sk false (bs s), s.size + 1, [], hk0, Lib.hid (by rw [List.drop_zero, Nat.zero_add]), by omega, by simp, rfl, Lib.hid ⟨World.ownsRow_nil _ _ _ _, HB1.out, HB1.out.size⟩, Lib.hid ?_⟩
  rw [List.drop_zero, List.length_nil, HR.out]
  cases R <;> simp [Lx.pre]
 case round =>
  obtain ⟨a, p, f, ts, hps, HP, hf, hl, rfl, HO, HQ⟩ := hrel
  obtain ⟨f, rfl⟩ : ∃ g, f = g + 1 := ⟨f - 1, by omega⟩
  obtain ⟨A, cap, hv⟩ := HO.out.slice
  subst hv
  have hap : a ≤ p := by have := HP.out; omega
  have HD := Lib.hid (show ((bs s).drop a).drop (Lx.sk false ((bs s).drop a)) = (bs s).drop p by rw [List.drop_drop, HP.out])
  by_cases hlt : p < s.size
  ·go_wp2_with fail
   refine (refOne_any s p _ hs hlt).mono ?_
   rintro e w2 ⟨hone, hb⟩
   have HO2 := Lib.hid (HO.out.below hb)
   clear hb
   cases hc : Lx.cut ((bs s).drop p) with
   | none =>
    rw [hc] at hone
    obtain ⟨k0, b0, m0, a0, z0, rfl⟩ := hone
    have HN := Lib.hid (show R = .bad p 90 by rw [HQ.out, lx_none (by rw [HD.out]; exact hc), HP.out]; rfl)
    clear hc
    go_wp2_with fail
    refine bodyPost_ret (v := .tuple #[.slice none 0 0, .int .i64 p, .int .i64 90]) (by simp [results, Tryz.results20, go_sem]) rfl ⟨_, rfl, ?_, ?_⟩
    ·rw [HN.out]; rfl
    ·exact HO2.out.bel.trans ((ba w2 _).mono HO2.out.le)
   | some x =>
    obtain ⟨t, z⟩ := x
    rw [hc] at hone
    have hone' : e = .returned (.tuple #[tokV (t.k : Int) ⟨t.s.toArray⟩ (t.n : Int) (p : Int), .int .i64 ((p + z : Nat) : Int), .bool true]) := hone
    subst hone'
    have hne : (bs s).drop p ≠ [] := by intro e; have := congrArg List.length e; rw [List.length_drop, bs_len, List.length_nil] at this; omega
    have hz := cut_some_z hc hne
    rw [List.length_drop, bs_len] at hz
    have h6 := cut_some_k hc hne
    have HC := Lib.hid (show Lx.cut (((bs s).drop a).drop (Lx.sk false ((bs s).drop a))) = some (t, z) by rw [HD.out]; exact hc)
    have hkz := (cut_kind hc).2 h6
    clear hone hc hne
    by_cases h4 : ts.length = 4096
    ·have HN := Lib.hid (show R = .bad p 3 by rw [HQ.out, h4, lx_long HC.out, HP.out]; rfl)
     have h4I : (4096 : Int) ≤ (ts.length : Int) := by omega
     go_wp2_with fail
     refine bodyPost_ret (v := .tuple #[.slice none 0 0, .int .i64 p, .int .i64 3]) (by simp [results, Tryz.results20, go_sem]) rfl ⟨_, rfl, ?_, ?_⟩
     ·rw [HN.out]; rfl
     ·exact HO2.out.bel.trans ((ba w2 _).mono HO2.out.le)
    ·have h4I : ¬ (4096 : Int) ≤ (ts.length : Int) := by omega
     have HN := Lib.hid (show R = Lx.pre (ts ++ [(t, p)]) (Lx.lx f ((bs s).drop (p + z)) (ts.length + 1) (p + z)) by
      rw [HQ.out, lx_more HC.out h4 h6, List.drop_drop, List.drop_drop, HP.out, ← Nat.add_assoc, HP.out])
     clear h6
     go_wp2_with (at_builtin; refine wpList_append_own _ rfl _ _ 59 rfl w.heap.size 66 i0 _ 4 40 Tryz.underlying59 hi hz0 hz1 hz2 rfl (by decide) _ _ _ rfl ((HO2.out.below (ba w2 _)).own.alloc _) ⟨w2.heap.size + 1, 0, none⟩ 1 1 [.int .i64 t.k, .string ⟨t.s.toArray⟩, .int .i64 t.n, .int .i64 p] rfl rfl ?c1 ?c2 ?c3 ?c4 ?c5 ?_)
     case c1 =>
      intro j u hj
      match j, hj with
      | 0, hj => simp at hj; subst hj; simp [Addr.add]
      | 1, hj => simp at hj; subst hj; simp [Addr.add]
      | 2, hj => simp at hj; subst hj; simp [Addr.add]
      | 3, hj => simp at hj; subst hj; simp [Addr.add]
     case c2 => exact tks_one' _ _ _ _
     case c3 => unfold maxLen; omega
     case c4 => omega
     case c5 => have := HO2.out.le; simp; omega
     intro v' w3 hown' hg _
     have HG := Lib.hid ((HO2.out.below (ba w2 _)).grow (t, p) hown' hg)
     clear hown' hg
     have hk := Lx.sk_le false ((bs s).drop (p + z))
     rw [List.length_drop, bs_len] at hk
     go_wp2_with fail
     refine (refSkip_any s (p + z) w3 (by omega) (by omega)).mono ?_
     rintro e w4 ⟨rfl, hb4⟩
     have HG4 := Lib.hid (HG.out.below hb4)
     clear hb4
     obtain ⟨q, hq⟩ : ∃ q, p + z + Lx.sk false ((bs s).drop (p + z)) = q := ⟨_, rfl⟩
     rw [hq]
     have hqs : q ≤ s.size := by omega
     have hpq : p < q := by omega
     have HQq := Lib.hid hq
     clear hq hk
     go_wp2_with fail
     go_roundw
     case rel => exact ⟨p + z, q, f, ts ++ [(t, p)], hqs, HQq, by omega, by simp; omega, by go_num, HG4, by rw [List.length_append]; exact HN⟩
     case measure => simp [intOf]; omega
  ·obtain rfl : p = s.size := by omega
   have HC := Lib.hid (show Lx.cut (((bs s).drop a).drop (Lx.sk false ((bs s).drop a))) = some (⟨6, [], 0⟩, 0) by rw [HD.out, List.drop_eq_nil_of_le (by rw [bs_len]; exact Nat.le_refl _)]; rfl)
   have hlt' : ¬ ((s.size : Int) < (s.size : Int)) := by omega
   by_cases h4 : ts.length = 4096
   ·have HN := Lib.hid (show R = .bad s.size 3 by rw [HQ.out, h4, lx_long HC.out, HP.out]; rfl)
    have h4I : (4096 : Int) ≤ (ts.length : Int) := by omega
    go_wp2_with fail
    refine bodyPost_ret (v := .tuple #[.slice none 0 0, .int .i64 s.size, .int .i64 3]) (by simp [results, Tryz.results20, go_sem]) rfl ⟨_, rfl, ?_, ?_⟩
    ·rw [HN.out]; rfl
    ·exact HO.out.bel
   ·have h4I : ¬ (4096 : Int) ≤ (ts.length : Int) := by omega
    have HN := Lib.hid (show R = .ok (ts ++ [(⟨6, [], 0⟩, s.size)]) s.size by rw [HQ.out, lx_fin HC.out h4 rfl, HP.out]; rfl)
    have HLe := Lib.hid HO.out.le
    go_wp2_with (at_builtin; refine wpList_append_own _ rfl _ _ 59 rfl w.heap.size 66 i0 _ 4 40 Tryz.underlying59 hi hz0 hz1 hz2 rfl (by decide) _ _ _ rfl (HO.out.own.alloc _) ⟨wr.heap.size, 0, none⟩ 1 1 [.int .i64 6, .string ⟨#[]⟩, .int .i64 0, .int .i64 s.size] rfl rfl ?c1 ?c2 ?c3 ?c4 ?c5 ?_)
    case c2 => exact ⟨rfl, rfl, rfl, rfl⟩
    case c3 => unfold maxLen; omega
    case c4 => omega
    case c5 => have := HLe.out; simp; omega
    intro v' w3 hown' hg _
    have HG := Lib.hid (HO.out.grow (⟨6, [], 0⟩, s.size) hown' hg)
    clear hown' hg
    go_wp2_with fail
    refine bodyPost_ret (v := .tuple #[v', .int .i64 s.size, .int .i64 0]) (by simp [results, Tryz.results20, go_sem]) rfl ⟨_, rfl, ?_, HG.out.bel⟩
    rw [HN.out]
    exact ⟨v', rfl, HG.out.own⟩
end Go.Proofs.YtfjimoccliejdaaGreatDoor
end
section
namespace Go.Proofs.YtfjimoccliejdaaGreatDoor
open Go.RowKit Go.Shelf

inductive PRes (α : Type) where
 | bad (n k : Nat)
 | ok (x : α)
def whR {α : Type} (f : Pa.Ps → α × Pa.Ps) (chk : α → Bool) (l : Lx.B) : PRes α :=
 match Lx.lx (l.length + 1) l 0 0 with
 | .bad n k => .bad n k
 | .ok ts _ => if (f ⟨ts, false⟩).2.bad = true ∨ (f ⟨ts, false⟩).2.tk.k ≠ 6 then .bad (f ⟨ts, false⟩).2.at 110 else if chk (f ⟨ts, false⟩).1 then .ok (f ⟨ts, false⟩).1 else .bad 0 3
def WhE {α : Type} (P : Lay α) (zc : Array Value) (r : PRes α) (w : World) (e : Ending) (w' : World) : Prop :=
 match r with
 | .bad n k => e = .returned (.tuple #[.agg zc, .int .i64 n, .int .i64 k]) ∧ Below w.heap.size w w'
 | .ok x => ∃ c, e = .returned (.tuple #[.agg c.toArray, .int .i64 0, .int .i64 0]) ∧ P (Bt w.heap.size w'.heap.size) w' x c ∧ Below w.heap.size w w'
theorem lx_bad_k : ∀ (f : Nat) (l : Lx.B) (c a n k : Nat), l.length < f → Lx.lx f l c a = .bad n k → k = 90 ∨ k = 3
 | 0, l, c, a, n, k, hl, _ => by omega
 | f + 1, l, c, a, n, k, hl, h => by
  cases hc : Lx.cut (l.drop (Lx.sk false l)) with
  | none => rw [lx_none hc] at h; cases h; exact .inl rfl
  | some x =>
   obtain ⟨t, z⟩ := x
   by_cases h4 : c = 4096
   ·subst h4; rw [lx_long hc] at h; cases h; exact .inr rfl
   ·by_cases h6 : t.k = 6
    ·rw [lx_fin hc h4 h6] at h; cases h
    ·have hz := (cut_kind hc).2 h6
     have hne : l.drop (Lx.sk false l) ≠ [] := by
      intro e
      rw [e] at hc
      cases hc
      exact h6 rfl
     have hzl := cut_some_z hc hne
     have hm := lx_more (f := f) (a := a) hc h4 h6 []
     simp only [List.length_drop] at hzl
     have hr : ∃ n' k', Lx.lx f ((l.drop (Lx.sk false l)).drop z) (c + 1) (a + Lx.sk false l + z) = .bad n' k' ∧ k' = k := by
      rw [Lx.lx, hc] at h
      simp only [h4, h6, if_false] at h
      cases hr : Lx.lx f ((l.drop (Lx.sk false l)).drop z) (c + 1) (a + Lx.sk false l + z) with
      | ok ts m => rw [hr] at h; cases h
      | bad n' k' => rw [hr] at h; cases h; exact ⟨_, _, rfl, rfl⟩
     obtain ⟨n', k', hr, rfl⟩ := hr
     exact lx_bad_k f _ _ _ _ _ (by simp only [List.length_drop]; omega) hr
theorem own_tk {base : Nat} {W : World} {v : Value} {l : List TkA} (h : W.ownsRow base 66 4 v l.length (tks l)) (hl : l ≠ []) : ∃ g cap, v = .slice (some ⟨g, 0, none⟩) l.length cap ∧ TkAt W (some ⟨g, 0, none⟩) l ∧ l.length ≤ cap ∧ base ≤ g ∧ g < W.heap.size := by
 rcases h.2 with ⟨_, h0⟩ | ⟨g, cap, cur, hv, hb1, hg, hc, hm, hsz, ht⟩
 ·exact absurd (List.eq_nil_of_length_eq_zero h0) hl
 ·refine ⟨g, cap, hv, .inr ⟨g, 0, rfl, fun j u hj => ?_⟩, hc, hb1, (Array.getElem?_eq_some_iff.1 hg).1⟩
  have hjl := (List.getElem?_eq_some_iff.1 hj).1
  rw [tks_len] at hjl
  have e : cur.toList[j]? = (tks l)[j]? := by rw [← ht, List.getElem?_take_of_lt hjl]
  rw [Nat.zero_add]
  simp only [World.cell?, hg]
  rw [← Array.getElem?_toList, e, hj]
  simp
theorem field_tokK (k : Int) (b : ByteArray) (n a : Int) (w : World) : (Instr.field 66 (.agg #[.int .i64 k, .string b, .int .i64 n, .int .i64 a]) 0).run Tryz.prog w = .ok (.int .i64 k) w := by kernel_rfl
theorem field_tokA (k : Int) (b : ByteArray) (n a : Int) (w : World) : (Instr.field 66 (.agg #[.int .i64 k, .string b, .int .i64 n, .int .i64 a]) 3).run Tryz.prog w = .ok (.int .i64 a) w := by kernel_rfl
theorem text_tt {l : Lx.B} {ts : List TkA} {n : Nat} (h : Lx.lx (l.length + 1) l 0 0 = .ok ts n) : Tt ⟨ts, false⟩ ∧ ts ≠ [] := by
 obtain ⟨ht, hl⟩ := Lx.toks_of _ _ _ _ _ _ (by omega) h
 exact ⟨⟨Pa.toks_fin ht, Pa.toks_sm ht, by show ts.length ≤ 5000; omega⟩, by have := (Pa.toks_fin ht).ne; intro e; rw [e] at this; simp at this⟩
theorem onu_below {U : Nat} {w v W : World} (h : OnU U v W) (hU : w.heap.size = U) (hb : Below w.heap.size w v) : Below w.heap.size w W :=
 ⟨h.os.trans hb.os, h.tape.trans hb.tape, h.output.trans hb.output, by rw [h.size]; exact hb.size, fun k hk => (h.block k (by omega)).trans (hb.block k hk)⟩
theorem BxU.butm {m : Nat} {w w' : World} {U : Nat} {cs : Array Value} {T : TypeId} (h : BxU w U cs T) (hm : U < m) (hb : ButM m w w') : BxU w' U cs T := by
 unfold BxU at h ⊢
 exact (hb.block U (Array.getElem?_eq_some_iff.1 h).1 (by omega)).trans h
end Go.Proofs.YtfjimoccliejdaaGreatDoor
end
section
namespace Go.Proofs.YtfjimoccliejdaaGreatDoor
open Go.RowKit Go.Shelf

set_option maxRecDepth 100000 in
set_option maxHeartbeats 8000000 in
theorem wholeE_any (s : ByteArray) (w : World) (hs : s.size ≤ 16384) (hT : Tabs w) (hO : TabO w) :
    Calls Tryz.prog 28 #[.string s, .func (.func 29) #[] #[], .func (.func 30) #[] #[]] w (WhE exC #[.int .i64 0, .int .i64 0, .int .i64 0, .int .i64 0, .string ⟨#[]⟩, .string ⟨#[]⟩, .string ⟨#[]⟩, .slice none 0 0] (whR (Pa.lev 40008 0) okX (bs s)) w) := by
  obtain ⟨X, hX⟩ : ∃ X, whR (Pa.lev 40008 0) okX (bs s) = X := ⟨_, rfl⟩
  rw [hX]
  obtain ⟨R, hR⟩ : ∃ R, Lx.lx ((bs s).length + 1) (bs s) 0 0 = R := ⟨_, rfl⟩
  have HX := Lib.hid (show X = match (motive := Lx.Res → PRes _) R with
    | .bad n k => .bad n k
    | .ok ts _ => if ((Pa.lev 40008 0) ⟨ts, false⟩).2.bad = true ∨ ((Pa.lev 40008 0) ⟨ts, false⟩).2.tk.k ≠ 6 then .bad ((Pa.lev 40008 0) ⟨ts, false⟩).2.at 110 else if okX ((Pa.lev 40008 0) ⟨ts, false⟩).1 then .ok ((Pa.lev 40008 0) ⟨ts, false⟩).1 else .bad 0 3 by rw [← hX, ← hR]; rfl)
  have hb1 := ba w (.cells #[.int .i64 0, .int .i64 0, .int .i64 0, .int .i64 0, .string ⟨#[]⟩, .string ⟨#[]⟩, .string ⟨#[]⟩, .slice none 0 0] 37)
  have hb2 := ba (w.alloc (.cells #[.int .i64 0, .int .i64 0, .int .i64 0, .int .i64 0, .string ⟨#[]⟩, .string ⟨#[]⟩, .string ⟨#[]⟩, .slice none 0 0] 37)) (.cells #[.int .i64 0, .int .i64 0, .int .i64 0, .int .i64 0, .string ⟨#[]⟩, .string ⟨#[]⟩, .string ⟨#[]⟩, .slice none 0 0] 37)
  have HB := Lib.hid (bt hb1 hb2)
  obtain ⟨U, hU⟩ : ∃ U, w.heap.size = U := ⟨_, rfl⟩
  have HUl := Lib.hid hU
  have hN0 := (MapKept.heap_alloc (w.alloc (.cells #[.int .i64 0, .int .i64 0, .int .i64 0, .int .i64 0, .string ⟨#[]⟩, .string ⟨#[]⟩, .string ⟨#[]⟩, .slice none 0 0] 37)) (.cells #[.int .i64 0, .int .i64 0, .int .i64 0, .int .i64 0, .string ⟨#[]⟩, .string ⟨#[]⟩, .string ⟨#[]⟩, .slice none 0 0] 37)).1
  rw [World.size_alloc, hU] at hN0
  have HN0 := Lib.hid (show BxU _ (U + 1) #[.int .i64 0, .int .i64 0, .int .i64 0, .int .i64 0, .string ⟨#[]⟩, .string ⟨#[]⟩, .string ⟨#[]⟩, .slice none 0 0] 37 from hN0)
  have hU0 := hb2.block w.heap.size (by rw [World.size_alloc]; omega) |>.trans (MapKept.heap_alloc w (.cells #[.int .i64 0, .int .i64 0, .int .i64 0, .int .i64 0, .string ⟨#[]⟩, .string ⟨#[]⟩, .string ⟨#[]⟩, .slice none 0 0] 37)).1
  rw [hU] at hU0
  have HU0 := Lib.hid (show BxU _ U #[.int .i64 0, .int .i64 0, .int .i64 0, .int .i64 0, .string ⟨#[]⟩, .string ⟨#[]⟩, .string ⟨#[]⟩, .slice none 0 0] 37 from hU0)
  have HSz := Lib.hid (show ((w.alloc (.cells #[.int .i64 0, .int .i64 0, .int .i64 0, .int .i64 0, .string ⟨#[]⟩, .string ⟨#[]⟩, .string ⟨#[]⟩, .slice none 0 0] 37)).alloc (.cells #[.int .i64 0, .int .i64 0, .int .i64 0, .int .i64 0, .string ⟨#[]⟩, .string ⟨#[]⟩, .string ⟨#[]⟩, .slice none 0 0] 37)).heap.size = U + 2 by rw [World.size_alloc, World.size_alloc, hU])
  have HA := Lib.hid (all_any s ((w.alloc (.cells #[.int .i64 0, .int .i64 0, .int .i64 0, .int .i64 0, .string ⟨#[]⟩, .string ⟨#[]⟩, .string ⟨#[]⟩, .slice none 0 0] 37)).alloc (.cells #[.int .i64 0, .int .i64 0, .int .i64 0, .int .i64 0, .string ⟨#[]⟩, .string ⟨#[]⟩, .string ⟨#[]⟩, .slice none 0 0] 37)) hs (hT.kept HB.out))
  rw [show s.size + 1 = (bs s).length + 1 by rw [bs_len], hR] at HA
  have HT := Lib.hid hT
  have HO := Lib.hid hO
  have HRr := Lib.hid hR
  clear hX hR hb1 hb2 hN0 hU0 hT hO
  go_enter Tryz.func28, Tryz.ntmps28
  go_wp2_with fail
  generalize (w.alloc (.cells #[.int .i64 0, .int .i64 0, .int .i64 0, .int .i64 0, .string ⟨#[]⟩, .string ⟨#[]⟩, .string ⟨#[]⟩, .slice none 0 0] 37)).alloc (.cells #[.int .i64 0, .int .i64 0, .int .i64 0, .int .i64 0, .string ⟨#[]⟩, .string ⟨#[]⟩, .string ⟨#[]⟩, .slice none 0 0] 37) = W2 at HB HN0 HU0 HSz HA ⊢
  clear hU
  refine HA.out.mono ?_
  rintro e v1 ⟨v, rfl, hv, hb⟩
  have HB1 := Lib.hid (bt HB.out hb)
  have HN1 := Lib.hid (HN0.out.next hb)
  have HU1 := Lib.hid (HU0.out.next hb)
  have HS1 := Lib.hid (show U + 2 ≤ v1.heap.size by rw [← HSz.out]; exact hb.size)
  clear hb
  cases R with
  | bad n k =>
    have hk := lx_bad_k _ _ _ _ _ _ (Nat.lt_succ_self _) HRr.out
    have hk0 : ¬ ((k : Int) = 0) := by omega
    have hv2 : v = .tuple #[.slice none 0 0, .int .i64 n, .int .i64 k] := hv
    subst hv2
    have HXe := Lib.hid (show X = .bad n k from HX.out)
    clear hv hk
    obtain ⟨n0, n1, n2, n3, n4, n5, n6, n7⟩ := cl8 (w := v1) HN1.out
    obtain ⟨u0, u1, u2, u3, u4, u5, u6, u7⟩ := cl8 (w := v1) HU1.out
    have fu0 := HU1.out.frozen 0
    have fu1 := HU1.out.frozen 1
    have fu2 := HU1.out.frozen 2
    have fu3 := HU1.out.frozen 3
    have fu4 := HU1.out.frozen 4
    have fu5 := HU1.out.frozen 5
    have fu6 := HU1.out.frozen 6
    have fu7 := HU1.out.frozen 7
    go_wp2_with fail
    exact bodyPost_ret (v := .tuple #[.agg #[.int .i64 0, .int .i64 0, .int .i64 0, .int .i64 0, .string ⟨#[]⟩, .string ⟨#[]⟩, .string ⟨#[]⟩, .slice none 0 0], .int .i64 n, .int .i64 k]) (by simp [results, Tryz.results28, go_sem, u0, u1, u2, u3, u4, u5, u6, u7]) rfl (by rw [HXe.out]; exact ⟨rfl, onu_below (OnU.refl _ _).set.set.set.set.set.set.set.set HUl.out HB1.out⟩)
  | ok ts n0 =>
    obtain ⟨l, hv2, ho⟩ := hv
    subst hv2
    obtain ⟨htt, hne⟩ := text_tt HRr.out
    obtain ⟨g, cap, rfl, hat, hcap, hg1, hg2⟩ := own_tk ho hne
    have hbm := ba v1 (rbox (some ⟨g, 0, none⟩) ts.length cap false)
    have hmb := (MapKept.heap_alloc v1 (rbox (some ⟨g, 0, none⟩) ts.length cap false)).1
    obtain ⟨m, hm⟩ : ∃ m, v1.heap.size = m := ⟨_, rfl⟩
    have hgm : 0 < m := by
      have h1 := lt_of_cell (HO.out 0 (by decide))
      have h2 := HB1.out.size
      rw [← hm]
      exact Nat.lt_of_lt_of_le h1 h2
    have HRS := Lib.hid (show RS m (v1.alloc (rbox (some ⟨g, 0, none⟩) ts.length cap false)) ⟨ts, false⟩ from ⟨⟨some ⟨g, 0, none⟩, cap, by rw [← hm]; exact hmb, hat.kept hbm, hcap, fun a ha => by cases ha; show g < m; omega⟩, htt.fin, TabO.low HO.out (lt_of_cell (HO.out 0 (by decide))) fun k hk => (bt HB1.out hbm).block k hk, hgm⟩)
    have HBm := Lib.hid (bt HB1.out hbm)
    have HNm := Lib.hid (HN1.out.next hbm)
    have HUm := Lib.hid (HU1.out.next hbm)
    have HTt := Lib.hid htt
    have HmU := Lib.hid (show U + 2 ≤ m by rw [← hm]; exact HS1.out)
    have HSm := Lib.hid (show (v1.alloc (rbox (some ⟨g, 0, none⟩) ts.length cap false)).heap.size = m + 1 by rw [World.size_alloc, hm])
    have HRu := Lib.hid ((levs_any m 40008 5000).1 (by decide) ⟨ts, false⟩ _ HRS.out htt.len)
    have HG := Lib.hid (lev_gd 40008 0 htt)
    obtain ⟨⟨x1, s1⟩, hq⟩ : ∃ q, (Pa.lev 40008 0) ⟨ts, false⟩ = q := ⟨_, rfl⟩
    rw [hq] at HRu HG
    have HQ := Lib.hid hq
    simp only at HRu HG
    clear ho htt hne hat hcap hg1 hg2 hbm hmb hgm hq
    go_wp2_with fail
    clear hm
    refine HRu.out.mono ?_
    rintro e v2 ⟨c, rfl, hC, hR, hM⟩
    have hC0 := hC
    obtain ⟨⟨hd, A, n, cp⟩, rfl, hqq⟩ := hC0
    rw [show (xcell (hd, A, n, cp)).toArray = #[.int .i64 hd.k, .int .i64 hd.n, .int .i64 hd.vk, .int .i64 hd.vn, .string hd.vs, .string hd.tab, .string hd.col, .slice A n cp] from rfl]
    have HB2 := Lib.hid (show Below w.heap.size w v2 from HBm.out.trans (hM.below (by have := HmU.out; have := HUl.out; omega) HBm.out.size))
    have HN2 := Lib.hid (HNm.out.butm (by have := HmU.out; omega) hM)
    have HU2 := Lib.hid (HUm.out.butm (by have := HmU.out; omega) hM)
    have hbv := ba v2 (.cells #[.int .i64 hd.k, .int .i64 hd.n, .int .i64 hd.vk, .int .i64 hd.vn, .string hd.vs, .string hd.tab, .string hd.col, .slice A n cp] 37)
    have HVv := Lib.hid (show BxU (v2.alloc (.cells #[.int .i64 hd.k, .int .i64 hd.n, .int .i64 hd.vk, .int .i64 hd.vn, .string hd.vs, .string hd.tab, .string hd.col, .slice A n cp] 37)) v2.heap.size #[.int .i64 hd.k, .int .i64 hd.n, .int .i64 hd.vk, .int .i64 hd.vn, .string hd.vs, .string hd.tab, .string hd.col, .slice A n cp] 37 from (MapKept.heap_alloc v2 (.cells #[.int .i64 hd.k, .int .i64 hd.n, .int .i64 hd.vk, .int .i64 hd.vn, .string hd.vs, .string hd.tab, .string hd.col, .slice A n cp] 37)).1)
    have HR3 := Lib.hid (hR.next hbv)
    have HB3 := Lib.hid (bt HB2.out hbv)
    have HN3 := Lib.hid (HN2.out.next hbv)
    have HU3 := Lib.hid (HU2.out.next hbv)
    have HC3 := Lib.hid (exC_ok.keep (a := m + 1) (b := v2.heap.size) hbv (Nat.le_refl _) (by rw [HSm.out] at hC; exact hC))
    have HL3 := Lib.hid (show v2.heap.size ≤ (v2.alloc (.cells #[.int .i64 hd.k, .int .i64 hd.n, .int .i64 hd.vk, .int .i64 hd.vn, .string hd.vs, .string hd.tab, .string hd.col, .slice A n cp] 37)).heap.size from hbv.size)
    have hmV : m < v2.heap.size := by have := hM.size; rw [HSm.out] at this; omega
    clear hqq hC hR hM hbv
    obtain ⟨x0, _, _, _, _, hx0, htk, hat0, _⟩ := HR3.out.rd.head HR3.out.fin
    have HXX := Lib.hid (show X = if s1.bad = true ∨ s1.tk.k ≠ 6 then .bad s1.at 110 else if okX x1 = true then .ok x1 else .bad 0 3 by
      have h : X = (if ((Pa.lev 40008 0) ⟨ts, false⟩).2.bad = true ∨ ((Pa.lev 40008 0) ⟨ts, false⟩).2.tk.k ≠ 6 then .bad ((Pa.lev 40008 0) ⟨ts, false⟩).2.at 110 else if okX ((Pa.lev 40008 0) ⟨ts, false⟩).1 then .ok ((Pa.lev 40008 0) ⟨ts, false⟩).1 else .bad 0 3) := HX.out
      rw [HQ.out] at h
      exact h)
    have HNx := Lib.hid (show ∀ W, Below (v2.alloc (.cells #[.int .i64 hd.k, .int .i64 hd.n, .int .i64 hd.vk, .int .i64 hd.vn, .string hd.vs, .string hd.tab, .string hd.col, .slice A n cp] 37)).heap.size (v2.alloc (.cells #[.int .i64 hd.k, .int .i64 hd.n, .int .i64 hd.vk, .int .i64 hd.vn, .string hd.vs, .string hd.tab, .string hd.col, .slice A n cp] 37)) W → Calls Tryz.prog 40 #[.pointer (some ⟨m, 0, none⟩)] W (fun e w4 => e = .returned (tkv x0) ∧ Hid (Below (v2.alloc (.cells #[.int .i64 hd.k, .int .i64 hd.n, .int .i64 hd.vk, .int .i64 hd.vn, .string hd.vs, .string hd.tab, .string hd.col, .slice A n cp] 37)).heap.size (v2.alloc (.cells #[.int .i64 hd.k, .int .i64 hd.n, .int .i64 hd.vk, .int .i64 hd.vn, .string hd.vs, .string hd.tab, .string hd.col, .slice A n cp] 37)) w4) ∧ w4.cell? ⟨U + 1, 0, none⟩ = some (.int .i64 0) ∧ w4.cell? ⟨U + 1, 1, none⟩ = some (.int .i64 0) ∧ w4.cell? ⟨U + 1, 2, none⟩ = some (.int .i64 0) ∧ w4.cell? ⟨U + 1, 3, none⟩ = some (.int .i64 0) ∧ w4.cell? ⟨U + 1, 4, none⟩ = some (.string ⟨#[]⟩) ∧ w4.cell? ⟨U + 1, 5, none⟩ = some (.string ⟨#[]⟩) ∧ w4.cell? ⟨U + 1, 6, none⟩ = some (.string ⟨#[]⟩) ∧ w4.cell? ⟨U + 1, 7, none⟩ = some (.slice none 0 0) ∧ w4.cell? ⟨U, 0, none⟩ = some (.int .i64 0) ∧ w4.cell? ⟨U, 1, none⟩ = some (.int .i64 0) ∧ w4.cell? ⟨U, 2, none⟩ = some (.int .i64 0) ∧ w4.cell? ⟨U, 3, none⟩ = some (.int .i64 0) ∧ w4.cell? ⟨U, 4, none⟩ = some (.string ⟨#[]⟩) ∧ w4.cell? ⟨U, 5, none⟩ = some (.string ⟨#[]⟩) ∧ w4.cell? ⟨U, 6, none⟩ = some (.string ⟨#[]⟩) ∧ w4.cell? ⟨U, 7, none⟩ = some (.slice none 0 0) ∧ w4.frozen? ⟨U, 0, none⟩ = false ∧ w4.frozen? ⟨U, 1, none⟩ = false ∧ w4.frozen? ⟨U, 2, none⟩ = false ∧ w4.frozen? ⟨U, 3, none⟩ = false ∧ w4.frozen? ⟨U, 4, none⟩ = false ∧ w4.frozen? ⟨U, 5, none⟩ = false ∧ w4.frozen? ⟨U, 6, none⟩ = false ∧ w4.frozen? ⟨U, 7, none⟩ = false) from fun W hW => (next_any m s1 W (HR3.out.next hW).rd HR3.out.fin).mono (fun e w4 hE => by
      obtain ⟨⟨y, hy, _, _, rfl⟩, hb⟩ := hE
      rw [hx0] at hy
      cases hy
      have hb3 := bt hW hb
      exact ⟨rfl, Lib.hid hb3, (HN3.out.next hb3).cell 0, (HN3.out.next hb3).cell 1, (HN3.out.next hb3).cell 2, (HN3.out.next hb3).cell 3, (HN3.out.next hb3).cell 4, (HN3.out.next hb3).cell 5, (HN3.out.next hb3).cell 6, (HN3.out.next hb3).cell 7, (HU3.out.next hb3).cell 0, (HU3.out.next hb3).cell 1, (HU3.out.next hb3).cell 2, (HU3.out.next hb3).cell 3, (HU3.out.next hb3).cell 4, (HU3.out.next hb3).cell 5, (HU3.out.next hb3).cell 6, (HU3.out.next hb3).cell 7, (HU3.out.next hb3).frozen 0, (HU3.out.next hb3).frozen 1, (HU3.out.next hb3).frozen 2, (HU3.out.next hb3).frozen 3, (HU3.out.next hb3).frozen 4, (HU3.out.next hb3).frozen 5, (HU3.out.next hb3).frozen 6, (HU3.out.next hb3).frozen 7⟩))
    have HAt := Lib.hid hat0
    have HTk := Lib.hid htk
    clear hx0 htk hat0 hmV
    have c1 := HR3.out.c1
    have hfa : ∀ W : World, _ := field_tokA x0.1.k ⟨x0.1.s.toArray⟩ x0.1.n x0.2
    have hfk : ∀ W : World, _ := field_tokK x0.1.k ⟨x0.1.s.toArray⟩ x0.1.n x0.2
    cases hbad : s1.bad with
    | true =>
      rw [hbad] at c1
      have HXe := Lib.hid (show X = .bad x0.2 110 by rw [HXX.out, if_pos (.inl hbad), HAt.out])
      clear hbad
      go_wp2_with fail
      generalize (v2.alloc (.cells #[.int .i64 hd.k, .int .i64 hd.n, .int .i64 hd.vk, .int .i64 hd.vn, .string hd.vs, .string hd.tab, .string hd.col, .slice A n cp] 37)) = W3 at HR3 HB3 HN3 HU3 HC3 HL3 HVv HNx c1 ⊢
      obtain ⟨n0, n1, n2, n3, n4, n5, n6, n7⟩ := cl8 (w := W3) HN3.out
      go_region_with (refine (HNx.out _ (by repeat (first | exact Below.refl _ _ | refine Below.drew ?_))).mono ?_; rintro e w4 ⟨rfl, hb4, n0, n1, n2, n3, n4, n5, n6, n7, u0, u1, u2, u3, u4, u5, u6, u7, fu0, fu1, fu2, fu3, fu4, fu5, fu6, fu7⟩)
      all_goals
        have HB4 := Lib.hid (bt HB3.out hb4.out)
        clear hb4
        go_wp2_with fail
        exact bodyPost_ret (v := .tuple #[.agg #[.int .i64 0, .int .i64 0, .int .i64 0, .int .i64 0, .string ⟨#[]⟩, .string ⟨#[]⟩, .string ⟨#[]⟩, .slice none 0 0], .int .i64 x0.2, .int .i64 110]) (by simp [results, Tryz.results28, go_sem, u0, u1, u2, u3, u4, u5, u6, u7]) rfl (by rw [HXe.out]; exact ⟨rfl, onu_below (OnU.refl _ _).set.set.set.set.set.set.set.set HUl.out HB4.out⟩)
    | false =>
      rw [hbad] at c1
      have HBd := Lib.hid hbad
      clear hbad
      go_wp2_with fail
      generalize (v2.alloc (.cells #[.int .i64 hd.k, .int .i64 hd.n, .int .i64 hd.vk, .int .i64 hd.vn, .string hd.vs, .string hd.tab, .string hd.col, .slice A n cp] 37)) = W3 at HR3 HB3 HN3 HU3 HC3 HL3 HVv HNx c1 ⊢
      refine (HNx.out _ (Below.refl _ _)).mono ?_
      rintro e w4 ⟨rfl, hb4, n0, n1, n2, n3, n4, n5, n6, n7, u0, u1, u2, u3, u4, u5, u6, u7, fu0, fu1, fu2, fu3, fu4, fu5, fu6, fu7⟩
      have HR4 := Lib.hid (HR3.out.next hb4.out)
      have HB4 := Lib.hid (bt HB3.out hb4.out)
      have HN4 := Lib.hid (HN3.out.next hb4.out)
      have HU4 := Lib.hid (HU3.out.next hb4.out)
      have HV4 := Lib.hid (HVv.out.next hb4.out)
      have HW4 := Lib.hid hb4.out
      clear hb4 c1
      by_cases hk6 : x0.1.k = 6
      case neg =>
        have hk6b : ¬ ((x0.1.k : Int) = 6) := by omega
        have HXe := Lib.hid (show X = .bad x0.2 110 by rw [HXX.out, if_pos (.inr (by rw [HTk.out]; exact hk6)), HAt.out])
        have HNy := Lib.hid (fun (W : World) (hW : Below w4.heap.size w4 W) => HNx.out W (bt HW4.out hW))
        clear hk6
        go_wp2_with fail
        go_region_with (refine (HNy.out _ (by repeat (first | exact Below.refl _ _ | refine Below.drew ?_))).mono ?_; rintro e w5 ⟨rfl, hb5, q0, q1, q2, q3, q4, q5, q6, q7, r0, r1, r2, r3, r4, r5, r6, r7, fr0, fr1, fr2, fr3, fr4, fr5, fr6, fr7⟩)
        all_goals
          have HB5 := Lib.hid (bt HB3.out hb5.out)
          clear hb5
          go_wp2_with fail
          exact bodyPost_ret (v := .tuple #[.agg #[.int .i64 0, .int .i64 0, .int .i64 0, .int .i64 0, .string ⟨#[]⟩, .string ⟨#[]⟩, .string ⟨#[]⟩, .slice none 0 0], .int .i64 x0.2, .int .i64 110]) (by simp [results, Tryz.results28, go_sem, r0, r1, r2, r3, r4, r5, r6, r7]) rfl (by rw [HXe.out]; exact ⟨rfl, onu_below (OnU.refl _ _).set.set.set.set.set.set.set.set HUl.out HB5.out⟩)

      case pos =>
        have hk6b : ((x0.1.k : Int) = 6) := by omega
        have HX6 := Lib.hid (show X = if okX x1 = true then .ok x1 else .bad 0 3 by rw [HXX.out, if_neg]; rintro (h | h) <;> first | (rw [HBd.out] at h; cases h) | exact h (by rw [HTk.out]; exact hk6))
        clear hk6
        obtain ⟨b0, b1, b2, b3, b4, b5, b6, b7⟩ := cl8 (w := w4) HV4.out
        have HC4 := Lib.hid (show exC (Ab w4) w4 x1 (xcell (hd, A, n, cp)) from exC_ok.go (fun k hk => HW4.out.block k (Nat.lt_of_lt_of_le hk.2 HL3.out)) (fun k hk => Nat.lt_of_lt_of_le hk.2 (Nat.le_trans HL3.out HW4.out.size)) HC3.out)
        cases hok : okX x1 with
        | false =>
          have HXe := Lib.hid (show X = .bad 0 3 by rw [HX6.out, hok]; rfl)
          have HCk := Lib.hid (show Calls Tryz.prog 30 #[.agg #[.int .i64 hd.k, .int .i64 hd.n, .int .i64 hd.vk, .int .i64 hd.vn, .string hd.vs, .string hd.tab, .string hd.col, .slice A n cp]] w4 (fun e w5 => e = .returned (.int .i64 100) ∧ Below w4.heap.size w4 w5) from (ev_check (exC_of_ev HC4.out) HG.out.sm (Nat.le_trans HG.out.cnt (by decide)) (HT.out.kept HB4.out) (show chkI x1 = 100 by rw [chk_of, hok]; rfl)).mono (by rintro e w5 ⟨u, rfl, hb, rfl⟩; exact ⟨rfl, hb⟩))
          clear hok
          go_wp2_with fail
          refine HCk.out.mono ?_
          rintro e w5 ⟨rfl, hb⟩
          have HB5 := Lib.hid (bt HB4.out hb)
          obtain ⟨q0, q1, q2, q3, q4, q5, q6, q7⟩ := cl8 (w := w5) (HN4.out.next hb)
          obtain ⟨r0, r1, r2, r3, r4, r5, r6, r7⟩ := cl8 (w := w5) (HU4.out.next hb)
          have fr0 : w5.frozen? ⟨U, 0, none⟩ = false := (HU4.out.next hb).frozen 0
          have fr1 : w5.frozen? ⟨U, 1, none⟩ = false := (HU4.out.next hb).frozen 1
          have fr2 : w5.frozen? ⟨U, 2, none⟩ = false := (HU4.out.next hb).frozen 2
          have fr3 : w5.frozen? ⟨U, 3, none⟩ = false := (HU4.out.next hb).frozen 3
          have fr4 : w5.frozen? ⟨U, 4, none⟩ = false := (HU4.out.next hb).frozen 4
          have fr5 : w5.frozen? ⟨U, 5, none⟩ = false := (HU4.out.next hb).frozen 5
          have fr6 : w5.frozen? ⟨U, 6, none⟩ = false := (HU4.out.next hb).frozen 6
          have fr7 : w5.frozen? ⟨U, 7, none⟩ = false := (HU4.out.next hb).frozen 7
          clear hb
          go_wp2_with fail
          exact bodyPost_ret (v := .tuple #[.agg #[.int .i64 0, .int .i64 0, .int .i64 0, .int .i64 0, .string ⟨#[]⟩, .string ⟨#[]⟩, .string ⟨#[]⟩, .slice none 0 0], .int .i64 0, .int .i64 3]) (by simp [results, Tryz.results28, go_sem, r0, r1, r2, r3, r4, r5, r6, r7]) rfl (by rw [HXe.out]; exact ⟨rfl, onu_below ((OnU.refl U w5).set.set.set.set.set.set.set.set) HUl.out HB5.out⟩)
        | true =>
          have HXe := Lib.hid (show X = .ok x1 by rw [HX6.out, hok]; rfl)
          have HCk := Lib.hid (show Calls Tryz.prog 30 #[.agg #[.int .i64 hd.k, .int .i64 hd.n, .int .i64 hd.vk, .int .i64 hd.vn, .string hd.vs, .string hd.tab, .string hd.col, .slice A n cp]] w4 (fun e w5 => e = .returned (.int .i64 0) ∧ Below w4.heap.size w4 w5) from (ev_check (exC_of_ev HC4.out) HG.out.sm (Nat.le_trans HG.out.cnt (by decide)) (HT.out.kept HB4.out) (show chkI x1 = 0 by rw [chk_of, hok]; rfl)).mono (by rintro e w5 ⟨u, rfl, hb, rfl⟩; exact ⟨rfl, hb⟩))
          clear hok
          go_wp2_with fail
          refine HCk.out.mono ?_
          rintro e w5 ⟨rfl, hb⟩
          have HB5 := Lib.hid (bt HB4.out hb)
          have HW5 := Lib.hid (bt HW4.out hb)
          obtain ⟨b0, b1, b2, b3, b4, b5, b6, b7⟩ := cl8 (w := w5) (HV4.out.next hb)
          obtain ⟨r0, r1, r2, r3, r4, r5, r6, r7⟩ := cl8 (w := w5) (HU4.out.next hb)
          have fr0 : w5.frozen? ⟨U, 0, none⟩ = false := (HU4.out.next hb).frozen 0
          have fr1 : w5.frozen? ⟨U, 1, none⟩ = false := (HU4.out.next hb).frozen 1
          have fr2 : w5.frozen? ⟨U, 2, none⟩ = false := (HU4.out.next hb).frozen 2
          have fr3 : w5.frozen? ⟨U, 3, none⟩ = false := (HU4.out.next hb).frozen 3
          have fr4 : w5.frozen? ⟨U, 4, none⟩ = false := (HU4.out.next hb).frozen 4
          have fr5 : w5.frozen? ⟨U, 5, none⟩ = false := (HU4.out.next hb).frozen 5
          have fr6 : w5.frozen? ⟨U, 6, none⟩ = false := (HU4.out.next hb).frozen 6
          have fr7 : w5.frozen? ⟨U, 7, none⟩ = false := (HU4.out.next hb).frozen 7
          clear hb
          go_wp2_with fail
          exact bodyPost_ret (v := .tuple #[.agg #[.int .i64 hd.k, .int .i64 hd.n, .int .i64 hd.vk, .int .i64 hd.vn, .string hd.vs, .string hd.tab, .string hd.col, .slice A n cp], .int .i64 0, .int .i64 0]) (by simp [results, Tryz.results28, go_sem, r0, r1, r2, r3, r4, r5, r6, r7]) rfl (by rw [HXe.out]; exact ⟨(xcell (hd, A, n, cp)), rfl, exC_ok.go (fun k hk => (((OnU.refl U w5).set.set.set.set.set.set.set.set).block k (by have := hk.1; have := HmU.out; omega)).trans (HW5.out.block k (Nat.lt_of_lt_of_le hk.2 HL3.out))) (fun k hk => ⟨by have := hk.1; have := HmU.out; have := HUl.out; omega, by rw [((OnU.refl U w5).set.set.set.set.set.set.set.set).size]; exact Nat.lt_of_lt_of_le hk.2 (Nat.le_trans HL3.out HW5.out.size)⟩) HC3.out, onu_below ((OnU.refl U w5).set.set.set.set.set.set.set.set) HUl.out HB5.out⟩)
end Go.Proofs.YtfjimoccliejdaaGreatDoor
end
section
namespace Go.Proofs.YtfjimoccliejdaaGreatDoor
open Go.RowKit Go.Shelf

set_option maxRecDepth 100000 in
set_option maxHeartbeats 4000000 in
theorem lsIt_any {G : Pa.Itm → Prop} {p : Pa.Itm → Bool} (HP : OkB itC 100 G p) (least most : Nat) (hm : most ≤ 1000) (_hls : least ≤ 1000) (l : List Pa.Itm) (A : Option Addr) (c : Nat) (w : World) (h : Ls itC (Ab w) w l A) (hG : ∀ x ∈ l, G x) (hT : Tabs w) (hl : l.length ≤ 1000000) {b : Bool} (hb : lsB least most p l = b) :
  Calls Tryz.prog 99 #[.slice A l.length c, .int .i64 least, .int .i64 most, .func (.func 100) #[] #[]] w fun e w' => e = .returned (.bool b) ∧ Below w.heap.size w w' := by
 have H0 := Lib.hid h
 have HG := Lib.hid hG
 have HT := Lib.hid hT
 have HX := Lib.hid hb
 have HPp := Lib.hid HP
 clear h hG hT hb HP
 by_cases h1 : l.length < least
 ·have h1I : (l.length : Int) < (least : Int) := by omega
  have HXe := Lib.hid (show b = false by rw [← HX.out, lsB, decide_eq_false (by omega)]; rfl)
  go_enter Tryz.func99, Tryz.ntmps99
  go_wp2_with fail
  exact bodyPost_ret (v := .bool false) (by simp [results, Tryz.results99, go_sem]) rfl ⟨by rw [HXe.out], Below.refl _ _⟩
 by_cases h2 : most < l.length
 ·have h1I : ¬ ((l.length : Int) < (least : Int)) := by omega
  have h2I : (most : Int) < (l.length : Int) := by omega
  have HXe := Lib.hid (show b = false by rw [← HX.out, lsB, decide_eq_false (p := l.length ≤ most) (by omega), Bool.and_false]; rfl)
  go_enter Tryz.func99, Tryz.ntmps99
  go_wp2_with fail
  exact bodyPost_ret (v := .bool false) (by simp [results, Tryz.results99, go_sem]) rfl ⟨by rw [HXe.out], Below.refl _ _⟩
 have h1I : ¬ ((l.length : Int) < (least : Int)) := by omega
 have h2I : ¬ ((most : Int) < (l.length : Int)) := by omega
 have HX2 := Lib.hid (show l.all p = b by rw [← HX.out, lsB, decide_eq_true (p := least ≤ l.length) (by omega), decide_eq_true (p := l.length ≤ most) (by omega)]; rfl)
 go_enter Tryz.func99, Tryz.ntmps99
 go_wp2_with fail
 go_loopw [23] (fun i wr => ∃ j : Nat, j ≤ l.length ∧ i = .int .i64 j ∧ Hid (Below w.heap.size w wr) ∧ Hid ((l.take j).all p = true)) (fun i _ => l.length - (intOf i).toNat)
 case atStart => exact ⟨0, Nat.zero_le _, rfl, Lib.hid (Below.refl _ _), Lib.hid (by simp)⟩
 case round =>
  obtain ⟨j, hj, rfl, HB, HN⟩ := hrel
  by_cases hlt : j < l.length
  ·obtain ⟨x, hx⟩ : ∃ x, l[j]? = some x := ⟨_, List.getElem?_eq_getElem hlt⟩
   obtain ⟨g, o, cc, rfl, _, hp, hc⟩ := (H0.out.nxt itC_ok HB.out).at itC_ok hx
   have hp0 := hp
   obtain ⟨hd, A9, n, cp, rfl, _⟩ := itC_ex hp
   have b0 : wr.cell? ⟨g, o + j * 10, none⟩ = some (.bool x.star) := hc 0 _ rfl
   have b1 : wr.cell? ⟨g, o + j * 10 + 1, none⟩ = some (.int .i64 hd.k) := hc 1 _ rfl
   have b2 : wr.cell? ⟨g, o + j * 10 + 2, none⟩ = some (.int .i64 hd.n) := hc 2 _ rfl
   have b3 : wr.cell? ⟨g, o + j * 10 + 3, none⟩ = some (.int .i64 hd.vk) := hc 3 _ rfl
   have b4 : wr.cell? ⟨g, o + j * 10 + 4, none⟩ = some (.int .i64 hd.vn) := hc 4 _ rfl
   have b5 : wr.cell? ⟨g, o + j * 10 + 5, none⟩ = some (.string hd.vs) := hc 5 _ rfl
   have b6 : wr.cell? ⟨g, o + j * 10 + 6, none⟩ = some (.string hd.tab) := hc 6 _ rfl
   have b7 : wr.cell? ⟨g, o + j * 10 + 7, none⟩ = some (.string hd.col) := hc 7 _ rfl
   have b8 : wr.cell? ⟨g, o + j * 10 + 8, none⟩ = some (.slice A9 n cp) := hc 8 _ rfl
   have b9 : wr.cell? ⟨g, o + j * 10 + 9, none⟩ = some (st x.nm) := hc 9 _ rfl
   have HS := Lib.hid (all_take_s p l j hlt)
   have hxe : l[j] = x := by rw [List.getElem?_eq_getElem hlt] at hx; exact Option.some.inj hx
   rw [hxe] at HS
   have hb1 := ba wr (.cells #[.bool x.star, .int .i64 hd.k, .int .i64 hd.n, .int .i64 hd.vk, .int .i64 hd.vn, .string hd.vs, .string hd.tab, .string hd.col, .slice A9 n cp, st x.nm] 49)
   have HP1 := Lib.hid (HPp.out x _ (wr.alloc (.cells #[.bool x.star, .int .i64 hd.k, .int .i64 hd.n, .int .i64 hd.vk, .int .i64 hd.vn, .string hd.vs, .string hd.tab, .string hd.col, .slice A9 n cp, st x.nm] 49)) (itC_ok.ab hb1 hp0) (HG.out x (List.mem_of_getElem? hx)) ((HT.out.kept HB.out).kept hb1))
   have HB1 := Lib.hid (bt HB.out hb1)
   obtain ⟨t, ht⟩ : ∃ t, p x = t := ⟨_, rfl⟩
   rw [ht] at HP1 HS
   have HMx := Lib.hid (show x ∈ l from List.mem_of_getElem? hx)
   have HTt := Lib.hid ht
   clear hp0 hc hx hxe hb1 ht
   cases t
   ·have HXe := Lib.hid (show b = false by
     rw [← HX2.out, List.all_eq_false]
     exact ⟨x, HMx.out, by rw [HTt.out]; simp⟩)
    go_wp2_with fail
    refine HP1.out.mono ?_
    rintro e w1 ⟨rfl, hb2⟩
    have HB2 := Lib.hid (bt HB1.out hb2)
    clear hb2
    go_wp2_with fail
    exact bodyPost_ret (v := .bool false) (by simp [results, Tryz.results99, go_sem]) rfl ⟨by rw [HXe.out], HB2.out⟩
   ·have HE := Lib.hid (show (l.take (j + 1)).all p = true by rw [HS.out, HN.out]; rfl)
    go_wp2_with fail
    refine HP1.out.mono ?_
    rintro e w1 ⟨rfl, hb2⟩
    have HB2 := Lib.hid (bt HB1.out hb2)
    clear hb2
    go_wp2_with fail
    go_roundw
    case rel => exact ⟨j + 1, by omega, by go_num, HB2, HE⟩
    case measure => simp [intOf]; omega
  ·have HXe := Lib.hid (show b = true by rw [← HX2.out, ← HN.out, List.take_of_length_le (by omega)])
   go_wp2_with fail
   exact bodyPost_ret (v := .bool true) (by simp [results, Tryz.results99, go_sem]) rfl ⟨by rw [HXe.out], HB.out⟩
set_option maxRecDepth 100000 in
set_option maxHeartbeats 4000000 in
theorem lsGr_any {G : Ex → Prop} {p : Ex → Bool} (HP : OkB exC 108 G p) (least most : Nat) (hm : most ≤ 1000) (_hls : least ≤ 1000) (l : List Ex) (A : Option Addr) (c : Nat) (w : World) (h : Ls exC (Ab w) w l A) (hG : ∀ x ∈ l, G x) (hT : Tabs w) (hl : l.length ≤ 1000000) {b : Bool} (hb : lsB least most p l = b) :
  Calls Tryz.prog 107 #[.slice A l.length c, .int .i64 least, .int .i64 most, .func (.func 108) #[] #[]] w fun e w' => e = .returned (.bool b) ∧ Below w.heap.size w w' := by
 have H0 := Lib.hid h
 have HG := Lib.hid hG
 have HT := Lib.hid hT
 have HX := Lib.hid hb
 have HPp := Lib.hid HP
 clear h hG hT hb HP
 by_cases h1 : l.length < least
 ·have h1I : (l.length : Int) < (least : Int) := by omega
  have HXe := Lib.hid (show b = false by rw [← HX.out, lsB, decide_eq_false (by omega)]; rfl)
  go_enter Tryz.func107, Tryz.ntmps107
  go_wp2_with fail
  exact bodyPost_ret (v := .bool false) (by simp [results, Tryz.results107, go_sem]) rfl ⟨by rw [HXe.out], Below.refl _ _⟩
 by_cases h2 : most < l.length
 ·have h1I : ¬ ((l.length : Int) < (least : Int)) := by omega
  have h2I : (most : Int) < (l.length : Int) := by omega
  have HXe := Lib.hid (show b = false by rw [← HX.out, lsB, decide_eq_false (p := l.length ≤ most) (by omega), Bool.and_false]; rfl)
  go_enter Tryz.func107, Tryz.ntmps107
  go_wp2_with fail
  exact bodyPost_ret (v := .bool false) (by simp [results, Tryz.results107, go_sem]) rfl ⟨by rw [HXe.out], Below.refl _ _⟩
 have h1I : ¬ ((l.length : Int) < (least : Int)) := by omega
 have h2I : ¬ ((most : Int) < (l.length : Int)) := by omega
 have HX2 := Lib.hid (show l.all p = b by rw [← HX.out, lsB, decide_eq_true (p := least ≤ l.length) (by omega), decide_eq_true (p := l.length ≤ most) (by omega)]; rfl)
 go_enter Tryz.func107, Tryz.ntmps107
 go_wp2_with fail
 go_loopw [23] (fun i wr => ∃ j : Nat, j ≤ l.length ∧ i = .int .i64 j ∧ Hid (Below w.heap.size w wr) ∧ Hid ((l.take j).all p = true)) (fun i _ => l.length - (intOf i).toNat)
 case atStart => exact ⟨0, Nat.zero_le _, rfl, Lib.hid (Below.refl _ _), Lib.hid (by simp)⟩
 case round =>
  obtain ⟨j, hj, rfl, HB, HN⟩ := hrel
  by_cases hlt : j < l.length
  ·obtain ⟨x, hx⟩ : ∃ x, l[j]? = some x := ⟨_, List.getElem?_eq_getElem hlt⟩
   obtain ⟨g, o, cc, rfl, _, hp, hc⟩ := (H0.out.nxt exC_ok HB.out).at exC_ok hx
   have hp0 := hp
   obtain ⟨A9, cp, rfl, _, _⟩ := exC_form hp
   have b0 : wr.cell? ⟨g, o + j * 8, none⟩ = some (.int .i64 x.hd.k) := hc 0 _ rfl
   have b1 : wr.cell? ⟨g, o + j * 8 + 1, none⟩ = some (.int .i64 x.hd.n) := hc 1 _ rfl
   have b2 : wr.cell? ⟨g, o + j * 8 + 2, none⟩ = some (.int .i64 x.hd.vk) := hc 2 _ rfl
   have b3 : wr.cell? ⟨g, o + j * 8 + 3, none⟩ = some (.int .i64 x.hd.vn) := hc 3 _ rfl
   have b4 : wr.cell? ⟨g, o + j * 8 + 4, none⟩ = some (.string x.hd.vs) := hc 4 _ rfl
   have b5 : wr.cell? ⟨g, o + j * 8 + 5, none⟩ = some (.string x.hd.tab) := hc 5 _ rfl
   have b6 : wr.cell? ⟨g, o + j * 8 + 6, none⟩ = some (.string x.hd.col) := hc 6 _ rfl
   have b7 : wr.cell? ⟨g, o + j * 8 + 7, none⟩ = some (.slice A9 x.kids.length cp) := hc 7 _ rfl
   have HS := Lib.hid (all_take_s p l j hlt)
   have hxe : l[j] = x := by rw [List.getElem?_eq_getElem hlt] at hx; exact Option.some.inj hx
   rw [hxe] at HS
   have hb1 := ba wr (.cells #[.int .i64 x.hd.k, .int .i64 x.hd.n, .int .i64 x.hd.vk, .int .i64 x.hd.vn, .string x.hd.vs, .string x.hd.tab, .string x.hd.col, .slice A9 x.kids.length cp] 37)
   have HP1 := Lib.hid (HPp.out x _ (wr.alloc (.cells #[.int .i64 x.hd.k, .int .i64 x.hd.n, .int .i64 x.hd.vk, .int .i64 x.hd.vn, .string x.hd.vs, .string x.hd.tab, .string x.hd.col, .slice A9 x.kids.length cp] 37)) (exC_ok.ab hb1 hp0) (HG.out x (List.mem_of_getElem? hx)) ((HT.out.kept HB.out).kept hb1))
   have HB1 := Lib.hid (bt HB.out hb1)
   obtain ⟨t, ht⟩ : ∃ t, p x = t := ⟨_, rfl⟩
   rw [ht] at HP1 HS
   have HMx := Lib.hid (show x ∈ l from List.mem_of_getElem? hx)
   have HTt := Lib.hid ht
   clear hp0 hc hx hxe hb1 ht
   cases t
   ·have HXe := Lib.hid (show b = false by
     rw [← HX2.out, List.all_eq_false]
     exact ⟨x, HMx.out, by rw [HTt.out]; simp⟩)
    go_wp2_with fail
    refine HP1.out.mono ?_
    rintro e w1 ⟨rfl, hb2⟩
    have HB2 := Lib.hid (bt HB1.out hb2)
    clear hb2
    go_wp2_with fail
    exact bodyPost_ret (v := .bool false) (by simp [results, Tryz.results107, go_sem]) rfl ⟨by rw [HXe.out], HB2.out⟩
   ·have HE := Lib.hid (show (l.take (j + 1)).all p = true by rw [HS.out, HN.out]; rfl)
    go_wp2_with fail
    refine HP1.out.mono ?_
    rintro e w1 ⟨rfl, hb2⟩
    have HB2 := Lib.hid (bt HB1.out hb2)
    clear hb2
    go_wp2_with fail
    go_roundw
    case rel => exact ⟨j + 1, by omega, by go_num, HB2, HE⟩
    case measure => simp [intOf]; omega
  ·have HXe := Lib.hid (show b = true by rw [← HX2.out, ← HN.out, List.take_of_length_le (by omega)])
   go_wp2_with fail
   exact bodyPost_ret (v := .bool true) (by simp [results, Tryz.results107, go_sem]) rfl ⟨by rw [HXe.out], HB.out⟩
end Go.Proofs.YtfjimoccliejdaaGreatDoor
end
section
namespace Go.Proofs.YtfjimoccliejdaaGreatDoor
open Go.RowKit Go.Shelf

set_option maxRecDepth 100000 in
set_option maxHeartbeats 4000000 in
theorem lsSo_any {G : Pa.Src → Prop} {p : Pa.Src → Bool} (HP : OkB srC 102 G p) (least most : Nat) (hm : most ≤ 1000) (_hls : least ≤ 1000) (l : List Pa.Src) (A : Option Addr) (c : Nat) (w : World) (h : Ls srC (Ab w) w l A) (hG : ∀ x ∈ l, G x) (hT : Tabs w) (hl : l.length ≤ 1000000) {b : Bool} (hb : lsB least most p l = b) :
  Calls Tryz.prog 101 #[.slice A l.length c, .int .i64 least, .int .i64 most, .func (.func 102) #[] #[]] w fun e w' => e = .returned (.bool b) ∧ Below w.heap.size w w' := by
 have H0 := Lib.hid h
 have HG := Lib.hid hG
 have HT := Lib.hid hT
 have HX := Lib.hid hb
 have HPp := Lib.hid HP
 clear h hG hT hb HP
 by_cases h1 : l.length < least
 ·have h1I : (l.length : Int) < (least : Int) := by omega
  have HXe := Lib.hid (show b = false by rw [← HX.out, lsB, decide_eq_false (by omega)]; rfl)
  go_enter Tryz.func101, Tryz.ntmps101
  go_wp2_with fail
  exact bodyPost_ret (v := .bool false) (by simp [results, Tryz.results101, go_sem]) rfl ⟨by rw [HXe.out], Below.refl _ _⟩
 by_cases h2 : most < l.length
 ·have h1I : ¬ ((l.length : Int) < (least : Int)) := by omega
  have h2I : (most : Int) < (l.length : Int) := by omega
  have HXe := Lib.hid (show b = false by rw [← HX.out, lsB, decide_eq_false (p := l.length ≤ most) (by omega), Bool.and_false]; rfl)
  go_enter Tryz.func101, Tryz.ntmps101
  go_wp2_with fail
  exact bodyPost_ret (v := .bool false) (by simp [results, Tryz.results101, go_sem]) rfl ⟨by rw [HXe.out], Below.refl _ _⟩
 have h1I : ¬ ((l.length : Int) < (least : Int)) := by omega
 have h2I : ¬ ((most : Int) < (l.length : Int)) := by omega
 have HX2 := Lib.hid (show l.all p = b by rw [← HX.out, lsB, decide_eq_true (p := least ≤ l.length) (by omega), decide_eq_true (p := l.length ≤ most) (by omega)]; rfl)
 go_enter Tryz.func101, Tryz.ntmps101
 go_wp2_with fail
 go_loopw [23] (fun i wr => ∃ j : Nat, j ≤ l.length ∧ i = .int .i64 j ∧ Hid (Below w.heap.size w wr) ∧ Hid ((l.take j).all p = true)) (fun i _ => l.length - (intOf i).toNat)
 case atStart => exact ⟨0, Nat.zero_le _, rfl, Lib.hid (Below.refl _ _), Lib.hid (by simp)⟩
 case round =>
  obtain ⟨j, hj, rfl, HB, HN⟩ := hrel
  by_cases hlt : j < l.length
  ·obtain ⟨x, hx⟩ : ∃ x, l[j]? = some x := ⟨_, List.getElem?_eq_getElem hlt⟩
   obtain ⟨g, o, cc, rfl, _, hp, hc⟩ := (H0.out.nxt srC_ok HB.out).at srC_ok hx
   have hp0 := hp
   obtain ⟨hd, A9, n, cp, rfl, _⟩ := srC_ex hp
   have b0 : wr.cell? ⟨g, o + j * 11, none⟩ = some (st x.tb) := hc 0 _ rfl
   have b1 : wr.cell? ⟨g, o + j * 11 + 1, none⟩ = some (st x.nm) := hc 1 _ rfl
   have b2 : wr.cell? ⟨g, o + j * 11 + 2, none⟩ = some (.int .i64 x.join) := hc 2 _ rfl
   have b3 : wr.cell? ⟨g, o + j * 11 + 3, none⟩ = some (.int .i64 hd.k) := hc 3 _ rfl
   have b4 : wr.cell? ⟨g, o + j * 11 + 4, none⟩ = some (.int .i64 hd.n) := hc 4 _ rfl
   have b5 : wr.cell? ⟨g, o + j * 11 + 5, none⟩ = some (.int .i64 hd.vk) := hc 5 _ rfl
   have b6 : wr.cell? ⟨g, o + j * 11 + 6, none⟩ = some (.int .i64 hd.vn) := hc 6 _ rfl
   have b7 : wr.cell? ⟨g, o + j * 11 + 7, none⟩ = some (.string hd.vs) := hc 7 _ rfl
   have b8 : wr.cell? ⟨g, o + j * 11 + 8, none⟩ = some (.string hd.tab) := hc 8 _ rfl
   have b9 : wr.cell? ⟨g, o + j * 11 + 9, none⟩ = some (.string hd.col) := hc 9 _ rfl
   have b10 : wr.cell? ⟨g, o + j * 11 + 10, none⟩ = some (.slice A9 n cp) := hc 10 _ rfl
   have HS := Lib.hid (all_take_s p l j hlt)
   have hxe : l[j] = x := by rw [List.getElem?_eq_getElem hlt] at hx; exact Option.some.inj hx
   rw [hxe] at HS
   have hb1 := ba wr (.cells #[st x.tb, st x.nm, .int .i64 x.join, .int .i64 hd.k, .int .i64 hd.n, .int .i64 hd.vk, .int .i64 hd.vn, .string hd.vs, .string hd.tab, .string hd.col, .slice A9 n cp] 51)
   have HP1 := Lib.hid (HPp.out x _ (wr.alloc (.cells #[st x.tb, st x.nm, .int .i64 x.join, .int .i64 hd.k, .int .i64 hd.n, .int .i64 hd.vk, .int .i64 hd.vn, .string hd.vs, .string hd.tab, .string hd.col, .slice A9 n cp] 51)) (srC_ok.ab hb1 hp0) (HG.out x (List.mem_of_getElem? hx)) ((HT.out.kept HB.out).kept hb1))
   have HB1 := Lib.hid (bt HB.out hb1)
   obtain ⟨t, ht⟩ : ∃ t, p x = t := ⟨_, rfl⟩
   rw [ht] at HP1 HS
   have HMx := Lib.hid (show x ∈ l from List.mem_of_getElem? hx)
   have HTt := Lib.hid ht
   clear hp0 hc hx hxe hb1 ht
   cases t
   ·have HXe := Lib.hid (show b = false by
     rw [← HX2.out, List.all_eq_false]
     exact ⟨x, HMx.out, by rw [HTt.out]; simp⟩)
    go_wp2_with fail
    refine HP1.out.mono ?_
    rintro e w1 ⟨rfl, hb2⟩
    have HB2 := Lib.hid (bt HB1.out hb2)
    clear hb2
    go_wp2_with fail
    exact bodyPost_ret (v := .bool false) (by simp [results, Tryz.results101, go_sem]) rfl ⟨by rw [HXe.out], HB2.out⟩
   ·have HE := Lib.hid (show (l.take (j + 1)).all p = true by rw [HS.out, HN.out]; rfl)
    go_wp2_with fail
    refine HP1.out.mono ?_
    rintro e w1 ⟨rfl, hb2⟩
    have HB2 := Lib.hid (bt HB1.out hb2)
    clear hb2
    go_wp2_with fail
    go_roundw
    case rel => exact ⟨j + 1, by omega, by go_num, HB2, HE⟩
    case measure => simp [intOf]; omega
  ·have HXe := Lib.hid (show b = true by rw [← HX2.out, ← HN.out, List.take_of_length_le (by omega)])
   go_wp2_with fail
   exact bodyPost_ret (v := .bool true) (by simp [results, Tryz.results101, go_sem]) rfl ⟨by rw [HXe.out], HB.out⟩
set_option maxRecDepth 100000 in
set_option maxHeartbeats 4000000 in
theorem lsJo_any {G : Pa.Src → Prop} {p : Pa.Src → Bool} (HP : OkB srC 104 G p) (least most : Nat) (hm : most ≤ 1000) (_hls : least ≤ 1000) (l : List Pa.Src) (A : Option Addr) (c : Nat) (w : World) (h : Ls srC (Ab w) w l A) (hG : ∀ x ∈ l, G x) (hT : Tabs w) (hl : l.length ≤ 1000000) {b : Bool} (hb : lsB least most p l = b) :
  Calls Tryz.prog 101 #[.slice A l.length c, .int .i64 least, .int .i64 most, .func (.func 104) #[] #[]] w fun e w' => e = .returned (.bool b) ∧ Below w.heap.size w w' := by
 have H0 := Lib.hid h
 have HG := Lib.hid hG
 have HT := Lib.hid hT
 have HX := Lib.hid hb
 have HPp := Lib.hid HP
 clear h hG hT hb HP
 by_cases h1 : l.length < least
 ·have h1I : (l.length : Int) < (least : Int) := by omega
  have HXe := Lib.hid (show b = false by rw [← HX.out, lsB, decide_eq_false (by omega)]; rfl)
  go_enter Tryz.func101, Tryz.ntmps101
  go_wp2_with fail
  exact bodyPost_ret (v := .bool false) (by simp [results, Tryz.results101, go_sem]) rfl ⟨by rw [HXe.out], Below.refl _ _⟩
 by_cases h2 : most < l.length
 ·have h1I : ¬ ((l.length : Int) < (least : Int)) := by omega
  have h2I : (most : Int) < (l.length : Int) := by omega
  have HXe := Lib.hid (show b = false by rw [← HX.out, lsB, decide_eq_false (p := l.length ≤ most) (by omega), Bool.and_false]; rfl)
  go_enter Tryz.func101, Tryz.ntmps101
  go_wp2_with fail
  exact bodyPost_ret (v := .bool false) (by simp [results, Tryz.results101, go_sem]) rfl ⟨by rw [HXe.out], Below.refl _ _⟩
 have h1I : ¬ ((l.length : Int) < (least : Int)) := by omega
 have h2I : ¬ ((most : Int) < (l.length : Int)) := by omega
 have HX2 := Lib.hid (show l.all p = b by rw [← HX.out, lsB, decide_eq_true (p := least ≤ l.length) (by omega), decide_eq_true (p := l.length ≤ most) (by omega)]; rfl)
 go_enter Tryz.func101, Tryz.ntmps101
 go_wp2_with fail
 go_loopw [23] (fun i wr => ∃ j : Nat, j ≤ l.length ∧ i = .int .i64 j ∧ Hid (Below w.heap.size w wr) ∧ Hid ((l.take j).all p = true)) (fun i _ => l.length - (intOf i).toNat)
 case atStart => exact ⟨0, Nat.zero_le _, rfl, Lib.hid (Below.refl _ _), Lib.hid (by simp)⟩
 case round =>
  obtain ⟨j, hj, rfl, HB, HN⟩ := hrel
  by_cases hlt : j < l.length
  ·obtain ⟨x, hx⟩ : ∃ x, l[j]? = some x := ⟨_, List.getElem?_eq_getElem hlt⟩
   obtain ⟨g, o, cc, rfl, _, hp, hc⟩ := (H0.out.nxt srC_ok HB.out).at srC_ok hx
   have hp0 := hp
   obtain ⟨hd, A9, n, cp, rfl, _⟩ := srC_ex hp
   have b0 : wr.cell? ⟨g, o + j * 11, none⟩ = some (st x.tb) := hc 0 _ rfl
   have b1 : wr.cell? ⟨g, o + j * 11 + 1, none⟩ = some (st x.nm) := hc 1 _ rfl
   have b2 : wr.cell? ⟨g, o + j * 11 + 2, none⟩ = some (.int .i64 x.join) := hc 2 _ rfl
   have b3 : wr.cell? ⟨g, o + j * 11 + 3, none⟩ = some (.int .i64 hd.k) := hc 3 _ rfl
   have b4 : wr.cell? ⟨g, o + j * 11 + 4, none⟩ = some (.int .i64 hd.n) := hc 4 _ rfl
   have b5 : wr.cell? ⟨g, o + j * 11 + 5, none⟩ = some (.int .i64 hd.vk) := hc 5 _ rfl
   have b6 : wr.cell? ⟨g, o + j * 11 + 6, none⟩ = some (.int .i64 hd.vn) := hc 6 _ rfl
   have b7 : wr.cell? ⟨g, o + j * 11 + 7, none⟩ = some (.string hd.vs) := hc 7 _ rfl
   have b8 : wr.cell? ⟨g, o + j * 11 + 8, none⟩ = some (.string hd.tab) := hc 8 _ rfl
   have b9 : wr.cell? ⟨g, o + j * 11 + 9, none⟩ = some (.string hd.col) := hc 9 _ rfl
   have b10 : wr.cell? ⟨g, o + j * 11 + 10, none⟩ = some (.slice A9 n cp) := hc 10 _ rfl
   have HS := Lib.hid (all_take_s p l j hlt)
   have hxe : l[j] = x := by rw [List.getElem?_eq_getElem hlt] at hx; exact Option.some.inj hx
   rw [hxe] at HS
   have hb1 := ba wr (.cells #[st x.tb, st x.nm, .int .i64 x.join, .int .i64 hd.k, .int .i64 hd.n, .int .i64 hd.vk, .int .i64 hd.vn, .string hd.vs, .string hd.tab, .string hd.col, .slice A9 n cp] 51)
   have HP1 := Lib.hid (HPp.out x _ (wr.alloc (.cells #[st x.tb, st x.nm, .int .i64 x.join, .int .i64 hd.k, .int .i64 hd.n, .int .i64 hd.vk, .int .i64 hd.vn, .string hd.vs, .string hd.tab, .string hd.col, .slice A9 n cp] 51)) (srC_ok.ab hb1 hp0) (HG.out x (List.mem_of_getElem? hx)) ((HT.out.kept HB.out).kept hb1))
   have HB1 := Lib.hid (bt HB.out hb1)
   obtain ⟨t, ht⟩ : ∃ t, p x = t := ⟨_, rfl⟩
   rw [ht] at HP1 HS
   have HMx := Lib.hid (show x ∈ l from List.mem_of_getElem? hx)
   have HTt := Lib.hid ht
   clear hp0 hc hx hxe hb1 ht
   cases t
   ·have HXe := Lib.hid (show b = false by
     rw [← HX2.out, List.all_eq_false]
     exact ⟨x, HMx.out, by rw [HTt.out]; simp⟩)
    go_wp2_with fail
    refine HP1.out.mono ?_
    rintro e w1 ⟨rfl, hb2⟩
    have HB2 := Lib.hid (bt HB1.out hb2)
    clear hb2
    go_wp2_with fail
    exact bodyPost_ret (v := .bool false) (by simp [results, Tryz.results101, go_sem]) rfl ⟨by rw [HXe.out], HB2.out⟩
   ·have HE := Lib.hid (show (l.take (j + 1)).all p = true by rw [HS.out, HN.out]; rfl)
    go_wp2_with fail
    refine HP1.out.mono ?_
    rintro e w1 ⟨rfl, hb2⟩
    have HB2 := Lib.hid (bt HB1.out hb2)
    clear hb2
    go_wp2_with fail
    go_roundw
    case rel => exact ⟨j + 1, by omega, by go_num, HB2, HE⟩
    case measure => simp [intOf]; omega
  ·have HXe := Lib.hid (show b = true by rw [← HX2.out, ← HN.out, List.take_of_length_le (by omega)])
   go_wp2_with fail
   exact bodyPost_ret (v := .bool true) (by simp [results, Tryz.results101, go_sem]) rfl ⟨by rw [HXe.out], HB.out⟩
end Go.Proofs.YtfjimoccliejdaaGreatDoor
end
section
namespace Go.Proofs.YtfjimoccliejdaaGreatDoor
open Go.RowKit Go.Shelf

set_option maxRecDepth 100000 in
set_option maxHeartbeats 4000000 in
theorem lsKy_any {G : Pa.Ky → Prop} {p : Pa.Ky → Bool} (HP : OkB kyC 59 G p) (least most : Nat) (hm : most ≤ 1000) (_hls : least ≤ 1000) (l : List Pa.Ky) (A : Option Addr) (c : Nat) (w : World) (h : Ls kyC (Ab w) w l A) (hG : ∀ x ∈ l, G x) (hT : Tabs w) (hl : l.length ≤ 1000000) {b : Bool} (hb : lsB least most p l = b) :
  Calls Tryz.prog 58 #[.slice A l.length c, .int .i64 least, .int .i64 most, .func (.func 59) #[] #[]] w fun e w' => e = .returned (.bool b) ∧ Below w.heap.size w w' := by
 have H0 := Lib.hid h
 have HG := Lib.hid hG
 have HT := Lib.hid hT
 have HX := Lib.hid hb
 have HPp := Lib.hid HP
 clear h hG hT hb HP
 by_cases h1 : l.length < least
 ·have h1I : (l.length : Int) < (least : Int) := by omega
  have HXe := Lib.hid (show b = false by rw [← HX.out, lsB, decide_eq_false (by omega)]; rfl)
  go_enter Tryz.func58, Tryz.ntmps58
  go_wp2_with fail
  exact bodyPost_ret (v := .bool false) (by simp [results, Tryz.results58, go_sem]) rfl ⟨by rw [HXe.out], Below.refl _ _⟩
 by_cases h2 : most < l.length
 ·have h1I : ¬ ((l.length : Int) < (least : Int)) := by omega
  have h2I : (most : Int) < (l.length : Int) := by omega
  have HXe := Lib.hid (show b = false by rw [← HX.out, lsB, decide_eq_false (p := l.length ≤ most) (by omega), Bool.and_false]; rfl)
  go_enter Tryz.func58, Tryz.ntmps58
  go_wp2_with fail
  exact bodyPost_ret (v := .bool false) (by simp [results, Tryz.results58, go_sem]) rfl ⟨by rw [HXe.out], Below.refl _ _⟩
 have h1I : ¬ ((l.length : Int) < (least : Int)) := by omega
 have h2I : ¬ ((most : Int) < (l.length : Int)) := by omega
 have HX2 := Lib.hid (show l.all p = b by rw [← HX.out, lsB, decide_eq_true (p := least ≤ l.length) (by omega), decide_eq_true (p := l.length ≤ most) (by omega)]; rfl)
 go_enter Tryz.func58, Tryz.ntmps58
 go_wp2_with fail
 go_loopw [23] (fun i wr => ∃ j : Nat, j ≤ l.length ∧ i = .int .i64 j ∧ Hid (Below w.heap.size w wr) ∧ Hid ((l.take j).all p = true)) (fun i _ => l.length - (intOf i).toNat)
 case atStart => exact ⟨0, Nat.zero_le _, rfl, Lib.hid (Below.refl _ _), Lib.hid (by simp)⟩
 case round =>
  obtain ⟨j, hj, rfl, HB, HN⟩ := hrel
  by_cases hlt : j < l.length
  ·obtain ⟨x, hx⟩ : ∃ x, l[j]? = some x := ⟨_, List.getElem?_eq_getElem hlt⟩
   obtain ⟨g, o, cc, rfl, _, hp, hc⟩ := (H0.out.nxt kyC_ok HB.out).at kyC_ok hx
   have hp0 := hp
   have hp9 : _ = _ := hp
   subst hp9
   have b0 : wr.cell? ⟨g, o + j * 2, none⟩ = some (st x.nm) := hc 0 _ rfl
   have b1 : wr.cell? ⟨g, o + j * 2 + 1, none⟩ = some (.bool x.down) := hc 1 _ rfl
   have HS := Lib.hid (all_take_s p l j hlt)
   have hxe : l[j] = x := by rw [List.getElem?_eq_getElem hlt] at hx; exact Option.some.inj hx
   rw [hxe] at HS
   have hb1 := ba wr (.cells #[st x.nm, .bool x.down] 54)
   have HP1 := Lib.hid (HPp.out x _ (wr.alloc (.cells #[st x.nm, .bool x.down] 54)) (kyC_ok.ab hb1 hp0) (HG.out x (List.mem_of_getElem? hx)) ((HT.out.kept HB.out).kept hb1))
   have HB1 := Lib.hid (bt HB.out hb1)
   obtain ⟨t, ht⟩ : ∃ t, p x = t := ⟨_, rfl⟩
   rw [ht] at HP1 HS
   have HMx := Lib.hid (show x ∈ l from List.mem_of_getElem? hx)
   have HTt := Lib.hid ht
   clear hp0 hc hx hxe hb1 ht
   cases t
   ·have HXe := Lib.hid (show b = false by
     rw [← HX2.out, List.all_eq_false]
     exact ⟨x, HMx.out, by rw [HTt.out]; simp⟩)
    go_wp2_with fail
    refine HP1.out.mono ?_
    rintro e w1 ⟨rfl, hb2⟩
    have HB2 := Lib.hid (bt HB1.out hb2)
    clear hb2
    go_wp2_with fail
    exact bodyPost_ret (v := .bool false) (by simp [results, Tryz.results58, go_sem]) rfl ⟨by rw [HXe.out], HB2.out⟩
   ·have HE := Lib.hid (show (l.take (j + 1)).all p = true by rw [HS.out, HN.out]; rfl)
    go_wp2_with fail
    refine HP1.out.mono ?_
    rintro e w1 ⟨rfl, hb2⟩
    have HB2 := Lib.hid (bt HB1.out hb2)
    clear hb2
    go_wp2_with fail
    go_roundw
    case rel => exact ⟨j + 1, by omega, by go_num, HB2, HE⟩
    case measure => simp [intOf]; omega
  ·have HXe := Lib.hid (show b = true by rw [← HX2.out, ← HN.out, List.take_of_length_le (by omega)])
   go_wp2_with fail
   exact bodyPost_ret (v := .bool true) (by simp [results, Tryz.results58, go_sem]) rfl ⟨by rw [HXe.out], HB.out⟩
set_option maxRecDepth 100000 in
set_option maxHeartbeats 4000000 in
theorem lsPa_any {G : Pa.Sel → Prop} {p : Pa.Sel → Bool} (HP : OkB slC 57 G p) (least most : Nat) (hm : most ≤ 1000) (_hls : least ≤ 1000) (l : List Pa.Sel) (A : Option Addr) (c : Nat) (w : World) (h : Ls slC (Ab w) w l A) (hG : ∀ x ∈ l, G x) (hT : Tabs w) (hl : l.length ≤ 1000000) {b : Bool} (hb : lsB least most p l = b) :
  Calls Tryz.prog 56 #[.slice A l.length c, .int .i64 least, .int .i64 most, .func (.func 57) #[] #[]] w fun e w' => e = .returned (.bool b) ∧ Below w.heap.size w w' := by
 have H0 := Lib.hid h
 have HG := Lib.hid hG
 have HT := Lib.hid hT
 have HX := Lib.hid hb
 have HPp := Lib.hid HP
 clear h hG hT hb HP
 by_cases h1 : l.length < least
 ·have h1I : (l.length : Int) < (least : Int) := by omega
  have HXe := Lib.hid (show b = false by rw [← HX.out, lsB, decide_eq_false (by omega)]; rfl)
  go_enter Tryz.func56, Tryz.ntmps56
  go_wp2_with fail
  exact bodyPost_ret (v := .bool false) (by simp [results, Tryz.results56, go_sem]) rfl ⟨by rw [HXe.out], Below.refl _ _⟩
 by_cases h2 : most < l.length
 ·have h1I : ¬ ((l.length : Int) < (least : Int)) := by omega
  have h2I : (most : Int) < (l.length : Int) := by omega
  have HXe := Lib.hid (show b = false by rw [← HX.out, lsB, decide_eq_false (p := l.length ≤ most) (by omega), Bool.and_false]; rfl)
  go_enter Tryz.func56, Tryz.ntmps56
  go_wp2_with fail
  exact bodyPost_ret (v := .bool false) (by simp [results, Tryz.results56, go_sem]) rfl ⟨by rw [HXe.out], Below.refl _ _⟩
 have h1I : ¬ ((l.length : Int) < (least : Int)) := by omega
 have h2I : ¬ ((most : Int) < (l.length : Int)) := by omega
 have HX2 := Lib.hid (show l.all p = b by rw [← HX.out, lsB, decide_eq_true (p := least ≤ l.length) (by omega), decide_eq_true (p := l.length ≤ most) (by omega)]; rfl)
 go_enter Tryz.func56, Tryz.ntmps56
 go_wp2_with fail
 go_loopw [23] (fun i wr => ∃ j : Nat, j ≤ l.length ∧ i = .int .i64 j ∧ Hid (Below w.heap.size w wr) ∧ Hid ((l.take j).all p = true)) (fun i _ => l.length - (intOf i).toNat)
 case atStart => exact ⟨0, Nat.zero_le _, rfl, Lib.hid (Below.refl _ _), Lib.hid (by simp)⟩
 case round =>
  obtain ⟨j, hj, rfl, HB, HN⟩ := hrel
  by_cases hlt : j < l.length
  ·obtain ⟨x, hx⟩ : ∃ x, l[j]? = some x := ⟨_, List.getElem?_eq_getElem hlt⟩
   obtain ⟨g, o, cc, rfl, _, hp, hc⟩ := (H0.out.nxt slC_ok HB.out).at slC_ok hx
   have hp0 := hp
   obtain ⟨iA, fA, gA, ic, fc, gc, hd, A9, n, cp, rfl, _⟩ := slC_ex hp
   have b0 : wr.cell? ⟨g, o + j * 12, none⟩ = some (.bool x.dist) := hc 0 _ rfl
   have b1 : wr.cell? ⟨g, o + j * 12 + 1, none⟩ = some (.slice iA x.its.length ic) := hc 1 _ rfl
   have b2 : wr.cell? ⟨g, o + j * 12 + 2, none⟩ = some (.slice fA x.frs.length fc) := hc 2 _ rfl
   have b3 : wr.cell? ⟨g, o + j * 12 + 3, none⟩ = some (.int .i64 hd.k) := hc 3 _ rfl
   have b4 : wr.cell? ⟨g, o + j * 12 + 4, none⟩ = some (.int .i64 hd.n) := hc 4 _ rfl
   have b5 : wr.cell? ⟨g, o + j * 12 + 5, none⟩ = some (.int .i64 hd.vk) := hc 5 _ rfl
   have b6 : wr.cell? ⟨g, o + j * 12 + 6, none⟩ = some (.int .i64 hd.vn) := hc 6 _ rfl
   have b7 : wr.cell? ⟨g, o + j * 12 + 7, none⟩ = some (.string hd.vs) := hc 7 _ rfl
   have b8 : wr.cell? ⟨g, o + j * 12 + 8, none⟩ = some (.string hd.tab) := hc 8 _ rfl
   have b9 : wr.cell? ⟨g, o + j * 12 + 9, none⟩ = some (.string hd.col) := hc 9 _ rfl
   have b10 : wr.cell? ⟨g, o + j * 12 + 10, none⟩ = some (.slice A9 n cp) := hc 10 _ rfl
   have b11 : wr.cell? ⟨g, o + j * 12 + 11, none⟩ = some (.slice gA x.grp.length gc) := hc 11 _ rfl
   have HS := Lib.hid (all_take_s p l j hlt)
   have hxe : l[j] = x := by rw [List.getElem?_eq_getElem hlt] at hx; exact Option.some.inj hx
   rw [hxe] at HS
   have hb1 := ba wr (.cells #[.bool x.dist, .slice iA x.its.length ic, .slice fA x.frs.length fc, .int .i64 hd.k, .int .i64 hd.n, .int .i64 hd.vk, .int .i64 hd.vn, .string hd.vs, .string hd.tab, .string hd.col, .slice A9 n cp, .slice gA x.grp.length gc] 47)
   have HP1 := Lib.hid (HPp.out x _ (wr.alloc (.cells #[.bool x.dist, .slice iA x.its.length ic, .slice fA x.frs.length fc, .int .i64 hd.k, .int .i64 hd.n, .int .i64 hd.vk, .int .i64 hd.vn, .string hd.vs, .string hd.tab, .string hd.col, .slice A9 n cp, .slice gA x.grp.length gc] 47)) (slC_ok.ab hb1 hp0) (HG.out x (List.mem_of_getElem? hx)) ((HT.out.kept HB.out).kept hb1))
   have HB1 := Lib.hid (bt HB.out hb1)
   obtain ⟨t, ht⟩ : ∃ t, p x = t := ⟨_, rfl⟩
   rw [ht] at HP1 HS
   have HMx := Lib.hid (show x ∈ l from List.mem_of_getElem? hx)
   have HTt := Lib.hid ht
   clear hp0 hc hx hxe hb1 ht
   cases t
   ·have HXe := Lib.hid (show b = false by
     rw [← HX2.out, List.all_eq_false]
     exact ⟨x, HMx.out, by rw [HTt.out]; simp⟩)
    go_wp2_with fail
    refine HP1.out.mono ?_
    rintro e w1 ⟨rfl, hb2⟩
    have HB2 := Lib.hid (bt HB1.out hb2)
    clear hb2
    go_wp2_with fail
    exact bodyPost_ret (v := .bool false) (by simp [results, Tryz.results56, go_sem]) rfl ⟨by rw [HXe.out], HB2.out⟩
   ·have HE := Lib.hid (show (l.take (j + 1)).all p = true by rw [HS.out, HN.out]; rfl)
    go_wp2_with fail
    refine HP1.out.mono ?_
    rintro e w1 ⟨rfl, hb2⟩
    have HB2 := Lib.hid (bt HB1.out hb2)
    clear hb2
    go_wp2_with fail
    go_roundw
    case rel => exact ⟨j + 1, by omega, by go_num, HB2, HE⟩
    case measure => simp [intOf]; omega
  ·have HXe := Lib.hid (show b = true by rw [← HX2.out, ← HN.out, List.take_of_length_le (by omega)])
   go_wp2_with fail
   exact bodyPost_ret (v := .bool true) (by simp [results, Tryz.results56, go_sem]) rfl ⟨by rw [HXe.out], HB.out⟩
end Go.Proofs.YtfjimoccliejdaaGreatDoor
end
section
namespace Go.Proofs.YtfjimoccliejdaaGreatDoor
open Go.RowKit Go.Shelf

theorem ba_nil0 {s : ByteArray} (h : s.toList = []) : s = ⟨#[]⟩ := by
 rw [ByteArray.toList_eq] at h
 obtain ⟨⟨a⟩⟩ := s
 simp at h
 rw [h]
theorem ba_nils {s : ByteArray} (h : s = ⟨#[]⟩) : s.toList = [] := by rw [h, ByteArray.toList_eq]
theorem nm_any (l : Lx.B) (w : World) (hl : l.length ≤ 1000) (hT : Tabs w) {b : Bool} (hb : nmB l = b) : Calls Tryz.prog 109 #[st l] w fun e w' => e = .returned (.bool b) ∧ Below w.heap.size w w' := by
 rw [← hb]
 exact name_any _ w (by show l.toArray.size ≤ _; simp; omega) hT
theorem gr_ok : OkB exC 108 Gd isGrB := fun _ _ _ h hg hT => isGr_any (exC_ev h) hg hT rfl
set_option maxRecDepth 100000 in
set_option maxHeartbeats 4000000 in
theorem it_ok : OkB itC 100 GdI isItB := by
 intro x c w h hg hT
 obtain ⟨b, hb⟩ : ∃ b, isItB x = b := ⟨_, rfl⟩
 rw [hb]
 have HX := Lib.hid hb
 have HT := Lib.hid hT
 have HG := Lib.hid hg
 clear hb hT hg
 obtain ⟨hd, A, n, cp, rfl, hx⟩ := itC_ex h
 obtain ⟨star, e0, nm⟩ := x
 simp only at hx ⊢
 have HE := Lib.hid (exC_of_ev hx)
 clear h hx
 obtain ⟨N, hN⟩ : ∃ N : ByteArray, N = ⟨nm.toArray⟩ := ⟨_, rfl⟩
 show Calls Tryz.prog 100 #[.agg #[.bool star, .int .i64 hd.k, .int .i64 hd.n, .int .i64 hd.vk, .int .i64 hd.vn, .string hd.vs, .string hd.tab, .string hd.col, .slice A n cp, .string ⟨nm.toArray⟩]] w _
 rw [← hN]
 have HNm := Lib.hid hN
 clear hN
 have HB0 := Lib.hid (ba w (.cells #[.bool star, .int .i64 hd.k, .int .i64 hd.n, .int .i64 hd.vk, .int .i64 hd.vn, .string hd.vs, .string hd.tab, .string hd.col, .slice A n cp, .string N] 49))
 have HU0 := Lib.hid (show BxU (w.alloc (.cells #[.bool star, .int .i64 hd.k, .int .i64 hd.n, .int .i64 hd.vk, .int .i64 hd.vn, .string hd.vs, .string hd.tab, .string hd.col, .slice A n cp, .string N] 49)) w.heap.size #[.bool star, .int .i64 hd.k, .int .i64 hd.n, .int .i64 hd.vk, .int .i64 hd.vn, .string hd.vs, .string hd.tab, .string hd.col, .slice A n cp, .string N] 49 from (MapKept.heap_alloc w (.cells #[.bool star, .int .i64 hd.k, .int .i64 hd.n, .int .i64 hd.vk, .int .i64 hd.vn, .string hd.vs, .string hd.tab, .string hd.col, .slice A n cp, .string N] 49)).1)
 have HT0 := Lib.hid (HT.out.kept HB0.out)
 cases star
 case false =>
  obtain ⟨t, ht⟩ : ∃ t, isExB e0 = t := ⟨_, rfl⟩
  have HN := Lib.hid (isEx_any (HE.out.next HB0.out) HG.out.e HT0.out ht)
  have H1 := Lib.hid ht
  clear ht
  go_enter Tryz.func100, Tryz.ntmps100
  go_wp2_with fail
  refine HN.out.mono ?_
  rintro e v1 ⟨rfl, hb⟩
  have HB1 := Lib.hid (bt HB0.out hb)
  have HU1 := Lib.hid (HU0.out.next hb)
  clear hb
  cases t
  ·go_wp2_with fail
   have HXe := Lib.hid (show b = false by rw [← HX.out]; simp [isItB, H1.out])
   exact bodyPost_ret (v := .bool false) (by simp [results, Tryz.results100, go_sem]) rfl ⟨by rw [HXe.out], HB1.out⟩
  ·have b9 : (v1).cell? ⟨w.heap.size, 9, none⟩ = some (.string N) := HU1.out.cell 9
   by_cases hs : N = ⟨#[]⟩
   ·have He := Lib.hid (show nm = [] by have h := HNm.out; rw [hs] at h; have h2 := congrArg ByteArray.data h; simp at h2; first | exact h2 | exact h2.symm)
    have HZ := Lib.hid (ba_nils hs)
    go_wp2_with fail
    have HXe := Lib.hid (show b = true by rw [← HX.out]; simp [isItB, H1.out, He.out])
    exact bodyPost_ret (v := .bool true) (by simp [results, Tryz.results100, go_sem]) rfl ⟨by rw [HXe.out], HB1.out⟩
   ·have He := Lib.hid (show nm.isEmpty = false by cases nm with | nil => exact absurd HNm.out hs | cons a r => rfl)
    have HZ := Lib.hid (fun h => hs (ba_nil0 h) : ¬ N.toList = [])
    obtain ⟨t, ht⟩ : ∃ t, nmB nm = t := ⟨_, rfl⟩
    have HN2 := Lib.hid (show Calls Tryz.prog 109 #[.string N] v1 _ from by rw [HNm.out]; exact nm_any nm v1 HG.out.nm (HT.out.kept HB1.out) ht)
    have H2 := Lib.hid ht
    clear ht
    go_wp2_with fail
    refine HN2.out.mono ?_
    rintro e v2 ⟨rfl, hb⟩
    have HB2 := Lib.hid (bt HB1.out hb)
    have HU2 := Lib.hid (HU1.out.next hb)
    clear hb
    go_wp2_with fail
    have HXe := Lib.hid (show b = t by rw [← HX.out]; simp [isItB, H1.out, He.out, H2.out])
    exact bodyPost_ret (v := .bool t) (by simp [results, Tryz.results100, go_sem]; exact fun h => absurd h HZ.out) rfl ⟨by rw [HXe.out], HB2.out⟩
 case true =>
  obtain ⟨t, ht⟩ : ∃ t, isNoB e0 = t := ⟨_, rfl⟩
  have HN := Lib.hid (isNo_any (HE.out.next HB0.out) HG.out.e ht)
  have H1 := Lib.hid ht
  clear ht
  go_enter Tryz.func100, Tryz.ntmps100
  go_wp2_with fail
  refine HN.out.mono ?_
  rintro e v1 ⟨rfl, hb⟩
  have HB1 := Lib.hid (bt HB0.out hb)
  have HU1 := Lib.hid (HU0.out.next hb)
  clear hb
  cases t
  ·go_wp2_with fail
   have HXe := Lib.hid (show b = false by rw [← HX.out]; simp [isItB, H1.out])
   exact bodyPost_ret (v := .bool false) (by simp [results, Tryz.results100, go_sem]) rfl ⟨by rw [HXe.out], HB1.out⟩
  ·have b9 : (v1).cell? ⟨w.heap.size, 9, none⟩ = some (.string N) := HU1.out.cell 9
   by_cases hs : N = ⟨#[]⟩
   ·have He := Lib.hid (show nm = [] by have h := HNm.out; rw [hs] at h; have h2 := congrArg ByteArray.data h; simp at h2; first | exact h2 | exact h2.symm)
    have HZ := Lib.hid (ba_nils hs)
    go_wp2_with fail
    have HXe := Lib.hid (show b = true by rw [← HX.out]; simp [isItB, H1.out, He.out])
    exact bodyPost_ret (v := .bool true) (by simp [results, Tryz.results100, go_sem]) rfl ⟨by rw [HXe.out], HB1.out⟩
   ·have He := Lib.hid (show nm.isEmpty = false by cases nm with | nil => exact absurd HNm.out hs | cons a r => rfl)
    have HZ := Lib.hid (fun h => hs (ba_nil0 h) : ¬ N.toList = [])
    go_wp2_with fail
    have HXe := Lib.hid (show b = false by rw [← HX.out]; simp [isItB, H1.out, He.out])
    exact bodyPost_ret (v := .bool false) (by simp [results, Tryz.results100, go_sem]; exact HZ.out) rfl ⟨by rw [HXe.out], HB1.out⟩
set_option maxRecDepth 100000 in
set_option maxHeartbeats 4000000 in
theorem so_ok : OkB srC 102 GdS isSoB := by
 intro x c w h hg hT
 obtain ⟨b, hb⟩ : ∃ b, isSoB x = b := ⟨_, rfl⟩
 rw [hb]
 have HX := Lib.hid hb
 have HT := Lib.hid hT
 have HG := Lib.hid hg
 clear hb hT hg
 obtain ⟨hd, A, n, cp, rfl, hx⟩ := srC_ex h
 obtain ⟨tb, nm, jn, on⟩ := x
 simp only at hx ⊢
 clear h hx
 have HB0 := Lib.hid (ba w (.cells #[st tb, st nm, .int .i64 jn, .int .i64 hd.k, .int .i64 hd.n, .int .i64 hd.vk, .int .i64 hd.vn, .string hd.vs, .string hd.tab, .string hd.col, .slice A n cp] 51))
 have HU0 := Lib.hid (show BxU (w.alloc (.cells #[st tb, st nm, .int .i64 jn, .int .i64 hd.k, .int .i64 hd.n, .int .i64 hd.vk, .int .i64 hd.vn, .string hd.vs, .string hd.tab, .string hd.col, .slice A n cp] 51)) w.heap.size #[st tb, st nm, .int .i64 jn, .int .i64 hd.k, .int .i64 hd.n, .int .i64 hd.vk, .int .i64 hd.vn, .string hd.vs, .string hd.tab, .string hd.col, .slice A n cp] 51 from (MapKept.heap_alloc w (.cells #[st tb, st nm, .int .i64 jn, .int .i64 hd.k, .int .i64 hd.n, .int .i64 hd.vk, .int .i64 hd.vn, .string hd.vs, .string hd.tab, .string hd.col, .slice A n cp] 51)).1)
 obtain ⟨t, ht⟩ : ∃ t, nmB tb = t := ⟨_, rfl⟩
 have HN := Lib.hid (nm_any tb (w.alloc (.cells #[st tb, st nm, .int .i64 jn, .int .i64 hd.k, .int .i64 hd.n, .int .i64 hd.vk, .int .i64 hd.vn, .string hd.vs, .string hd.tab, .string hd.col, .slice A n cp] 51)) HG.out.tb (HT.out.kept HB0.out) ht)
 have H1 := Lib.hid ht
 clear ht
 show Calls Tryz.prog 102 #[.agg #[st tb, st nm, .int .i64 jn, .int .i64 hd.k, .int .i64 hd.n, .int .i64 hd.vk, .int .i64 hd.vn, .string hd.vs, .string hd.tab, .string hd.col, .slice A n cp]] w _
 go_enter Tryz.func102, Tryz.ntmps102
 go_wp2_with fail
 refine HN.out.mono ?_
 rintro e v1 ⟨rfl, hb⟩
 have HB1 := Lib.hid (bt HB0.out hb)
 have HU1 := Lib.hid (HU0.out.next hb)
 clear hb
 cases t
 ·go_wp2_with fail
  have HXe := Lib.hid (show b = false by rw [← HX.out]; simp [isSoB, H1.out])
  exact bodyPost_ret (v := .bool false) (by simp [results, Tryz.results102, go_sem]) rfl ⟨by rw [HXe.out], HB1.out⟩
 ·have b1 : (v1).cell? ⟨w.heap.size, 1, none⟩ = some (st nm) := HU1.out.cell 1
  obtain ⟨t, ht⟩ : ∃ t, nmB nm = t := ⟨_, rfl⟩
  have HN2 := Lib.hid (nm_any nm v1 HG.out.nm (HT.out.kept HB1.out) ht)
  have H2 := Lib.hid ht
  clear ht
  go_wp2_with fail
  refine HN2.out.mono ?_
  rintro e v2 ⟨rfl, hb⟩
  have HB2 := Lib.hid (bt HB1.out hb)
  have HU2 := Lib.hid (HU1.out.next hb)
  clear hb
  go_wp2_with fail
  have HXe := Lib.hid (show b = t by rw [← HX.out]; simp [isSoB, H1.out, H2.out])
  exact bodyPost_ret (v := .bool t) (by simp [results, Tryz.results102, go_sem]) rfl ⟨by rw [HXe.out], HB2.out⟩
set_option maxRecDepth 100000 in
set_option maxHeartbeats 4000000 in
theorem fi_ok : OkB srC 103 GdS isFiB := by
 intro x c w h hg hT
 obtain ⟨b, hb⟩ : ∃ b, isFiB x = b := ⟨_, rfl⟩
 rw [hb]
 have HX := Lib.hid hb
 have HT := Lib.hid hT
 have HG := Lib.hid hg
 clear hb hT hg
 obtain ⟨hd, A, n, cp, rfl, hx⟩ := srC_ex h
 obtain ⟨tb, nm, jn, on⟩ := x
 simp only at hx ⊢
 have HE := Lib.hid (exC_of_ev hx)
 clear h hx
 have HB0 := Lib.hid (ba w (.cells #[st tb, st nm, .int .i64 jn, .int .i64 hd.k, .int .i64 hd.n, .int .i64 hd.vk, .int .i64 hd.vn, .string hd.vs, .string hd.tab, .string hd.col, .slice A n cp] 51))
 have HU0 := Lib.hid (show BxU (w.alloc (.cells #[st tb, st nm, .int .i64 jn, .int .i64 hd.k, .int .i64 hd.n, .int .i64 hd.vk, .int .i64 hd.vn, .string hd.vs, .string hd.tab, .string hd.col, .slice A n cp] 51)) w.heap.size #[st tb, st nm, .int .i64 jn, .int .i64 hd.k, .int .i64 hd.n, .int .i64 hd.vk, .int .i64 hd.vn, .string hd.vs, .string hd.tab, .string hd.col, .slice A n cp] 51 from (MapKept.heap_alloc w (.cells #[st tb, st nm, .int .i64 jn, .int .i64 hd.k, .int .i64 hd.n, .int .i64 hd.vk, .int .i64 hd.vn, .string hd.vs, .string hd.tab, .string hd.col, .slice A n cp] 51)).1)
 by_cases hj : jn = 0
 ·have hjb : ((jn : Int) == 0) = true := by rw [hj]; rfl
  have HJ := Lib.hid hj
  clear hj
  obtain ⟨t, ht⟩ : ∃ t, isNoB on = t := ⟨_, rfl⟩
  have HN := Lib.hid (isNo_any (HE.out.next HB0.out) HG.out.on ht)
  have H1 := Lib.hid ht
  clear ht
  show Calls Tryz.prog 103 #[.agg #[st tb, st nm, .int .i64 jn, .int .i64 hd.k, .int .i64 hd.n, .int .i64 hd.vk, .int .i64 hd.vn, .string hd.vs, .string hd.tab, .string hd.col, .slice A n cp]] w _
  go_enter Tryz.func103, Tryz.ntmps103
  go_wp2_with fail
  refine HN.out.mono ?_
  rintro e v1 ⟨rfl, hb⟩
  have HB1 := Lib.hid (bt HB0.out hb)
  have HU1 := Lib.hid (HU0.out.next hb)
  clear hb
  go_wp2_with fail
  have HXe := Lib.hid (show b = t by rw [← HX.out]; simp [isFiB, H1.out, HJ.out])
  exact bodyPost_ret (v := .bool t) (by simp [results, Tryz.results103, go_sem]) rfl ⟨by rw [HXe.out], HB1.out⟩
 ·have hjb : ((jn : Int) == 0) = false := beq_eq_false_iff_ne.2 (by omega)
  have HJ := Lib.hid hj
  clear hj
  show Calls Tryz.prog 103 #[.agg #[st tb, st nm, .int .i64 jn, .int .i64 hd.k, .int .i64 hd.n, .int .i64 hd.vk, .int .i64 hd.vn, .string hd.vs, .string hd.tab, .string hd.col, .slice A n cp]] w _
  go_enter Tryz.func103, Tryz.ntmps103
  go_wp2_with fail
  have HXe := Lib.hid (show b = false by rw [← HX.out]; simp [isFiB, HJ.out])
  exact bodyPost_ret (v := .bool false) (by simp [results, Tryz.results103, go_sem]) rfl ⟨by rw [HXe.out], HB0.out⟩
set_option maxRecDepth 100000 in
set_option maxHeartbeats 4000000 in
theorem jo_ok : OkB srC 104 GdS isJoB := by
 intro x c w h hg hT
 obtain ⟨b, hb⟩ : ∃ b, isJoB x = b := ⟨_, rfl⟩
 rw [hb]
 have HX := Lib.hid hb
 have HT := Lib.hid hT
 have HG := Lib.hid hg
 clear hb hT hg
 obtain ⟨hd, A, n, cp, rfl, hx⟩ := srC_ex h
 obtain ⟨tb, nm, jn, on⟩ := x
 simp only at hx ⊢
 have HE := Lib.hid (exC_of_ev hx)
 clear h hx
 have HB0 := Lib.hid (ba w (.cells #[st tb, st nm, .int .i64 jn, .int .i64 hd.k, .int .i64 hd.n, .int .i64 hd.vk, .int .i64 hd.vn, .string hd.vs, .string hd.tab, .string hd.col, .slice A n cp] 51))
 have HU0 := Lib.hid (show BxU (w.alloc (.cells #[st tb, st nm, .int .i64 jn, .int .i64 hd.k, .int .i64 hd.n, .int .i64 hd.vk, .int .i64 hd.vn, .string hd.vs, .string hd.tab, .string hd.col, .slice A n cp] 51)) w.heap.size #[st tb, st nm, .int .i64 jn, .int .i64 hd.k, .int .i64 hd.n, .int .i64 hd.vk, .int .i64 hd.vn, .string hd.vs, .string hd.tab, .string hd.col, .slice A n cp] 51 from (MapKept.heap_alloc w (.cells #[st tb, st nm, .int .i64 jn, .int .i64 hd.k, .int .i64 hd.n, .int .i64 hd.vk, .int .i64 hd.vn, .string hd.vs, .string hd.tab, .string hd.col, .slice A n cp] 51)).1)
 by_cases h1 : 1 ≤ jn
 ·have h1I : (1 : Int) ≤ (jn : Int) := by omega
  by_cases h4 : jn ≤ 4
  ·have h4I : (jn : Int) ≤ 4 := by omega
   have HJ := Lib.hid (And.intro h1 h4)
   obtain ⟨t, ht⟩ : ∃ t, isCoB on = t := ⟨_, rfl⟩
   have HN := Lib.hid (isCo_any (HE.out.next HB0.out) HG.out.on (HT.out.kept HB0.out) ht)
   have H1 := Lib.hid ht
   clear ht
   show Calls Tryz.prog 104 #[.agg #[st tb, st nm, .int .i64 jn, .int .i64 hd.k, .int .i64 hd.n, .int .i64 hd.vk, .int .i64 hd.vn, .string hd.vs, .string hd.tab, .string hd.col, .slice A n cp]] w _
   go_enter Tryz.func104, Tryz.ntmps104
   go_wp2_with fail
   refine HN.out.mono ?_
   rintro e v1 ⟨rfl, hb⟩
   have HB1 := Lib.hid (bt HB0.out hb)
   have HU1 := Lib.hid (HU0.out.next hb)
   clear hb
   go_wp2_with fail
   have HXe := Lib.hid (show b = t by rw [← HX.out]; simp [isJoB, H1.out, HJ.out.1, HJ.out.2])
   exact bodyPost_ret (v := .bool t) (by simp [results, Tryz.results104, go_sem]) rfl ⟨by rw [HXe.out], HB1.out⟩
  ·have h4I : ¬ (jn : Int) ≤ 4 := by omega
   have HJ := Lib.hid h4
   show Calls Tryz.prog 104 #[.agg #[st tb, st nm, .int .i64 jn, .int .i64 hd.k, .int .i64 hd.n, .int .i64 hd.vk, .int .i64 hd.vn, .string hd.vs, .string hd.tab, .string hd.col, .slice A n cp]] w _
   go_enter Tryz.func104, Tryz.ntmps104
   go_wp2_with fail
   have HXe := Lib.hid (show b = false by rw [← HX.out]; simp [isJoB, HJ.out])
   exact bodyPost_ret (v := .bool false) (by simp [results, Tryz.results104, go_sem]) rfl ⟨by rw [HXe.out], HB0.out⟩
 ·have h1I : ¬ (1 : Int) ≤ (jn : Int) := by omega
  have HJ := Lib.hid h1
  show Calls Tryz.prog 104 #[.agg #[st tb, st nm, .int .i64 jn, .int .i64 hd.k, .int .i64 hd.n, .int .i64 hd.vk, .int .i64 hd.vn, .string hd.vs, .string hd.tab, .string hd.col, .slice A n cp]] w _
  go_enter Tryz.func104, Tryz.ntmps104
  go_wp2_with fail
  have HXe := Lib.hid (show b = false by rw [← HX.out]; have := HJ.out; simp [isJoB]; omega)
  exact bodyPost_ret (v := .bool false) (by simp [results, Tryz.results104, go_sem]) rfl ⟨by rw [HXe.out], HB0.out⟩
set_option maxRecDepth 100000 in
set_option maxHeartbeats 4000000 in
theorem ky_ok : OkB kyC 59 GdK isKyB := by
 intro x c w h hg hT
 obtain ⟨b, hb⟩ : ∃ b, isKyB x = b := ⟨_, rfl⟩
 rw [hb]
 have HX := Lib.hid hb
 have HT := Lib.hid hT
 have HG := Lib.hid hg
 clear hb hT hg
 have hc : c = _ := h
 subst hc
 obtain ⟨nm, down⟩ := x
 simp only
 clear h
 have HB0 := Lib.hid (ba w (.cells #[st nm, .bool down] 54))
 have HU0 := Lib.hid (show BxU (w.alloc (.cells #[st nm, .bool down] 54)) w.heap.size #[st nm, .bool down] 54 from (MapKept.heap_alloc w (.cells #[st nm, .bool down] 54)).1)
 obtain ⟨t, ht⟩ : ∃ t, nmB nm = t := ⟨_, rfl⟩
 have HN := Lib.hid (nm_any nm (w.alloc (.cells #[st nm, .bool down] 54)) HG.out.nm (HT.out.kept HB0.out) ht)
 have H1 := Lib.hid ht
 clear ht
 show Calls Tryz.prog 59 #[.agg #[st nm, .bool down]] w _
 go_enter Tryz.func59, Tryz.ntmps59
 go_wp2_with fail
 refine HN.out.mono ?_
 rintro e v1 ⟨rfl, hb⟩
 have HB1 := Lib.hid (bt HB0.out hb)
 have HU1 := Lib.hid (HU0.out.next hb)
 clear hb
 go_wp2_with fail
 have HXe := Lib.hid (show b = t by rw [← HX.out]; simp [isKyB, H1.out])
 exact bodyPost_ret (v := .bool t) (by simp [results, Tryz.results59, go_sem]) rfl ⟨by rw [HXe.out], HB1.out⟩
end Go.Proofs.YtfjimoccliejdaaGreatDoor
end
