/-
  Queries that are read of tokens, plainly: whatever is read is small.
The document's tokens: all of a text.
A whole text: what is read of it.
A whole text: an expression.
Lists of items, of groups.
Lists of sources.
Lists of keys, of parts.
-/
import Derived.Test.YtfjimoccliejdaaGreatDoorY13
section
namespace Go.Proofs.YtfjimoccliejdaaGreatDoor
open Go.RowKit Go.Shelf

/-- A state of a text's tokens. -/
structure Tt (s : Pa.Ps) : Prop where
  fin : Pa.Fin s.ts
  sm : Pa.SmT s
  len : s.ts.length ≤ 5000
theorem Tt.le {s s' : Pa.Ps} (h : Tt s) (l : Pa.Le s s') : Tt s' := ⟨l.fin, h.sm.le l, Nat.le_trans l.len h.len⟩
theorem sz_gd {e : Ex} {s s' : Pa.Ps} (h : Tt s) (z : Pa.Sz e s s') : Gd e := ⟨z.sm, by have := z.n; have := h.len; have : Pa.bN s'.bad ≤ 1 := by { unfold Pa.bN; split <;> omega }; omega⟩
theorem lev_gd (F k : Nat) {s : Pa.Ps} (h : Tt s) : Gd (Pa.lev F k s).1 := sz_gd h (Pa.lev_sz F k s h.fin h.sm)
theorem col_gd {s : Pa.Ps} (h : Tt s) : Gd (Pa.colP s).1 := sz_gd h (Pa.col_sz h.fin h.sm)
theorem exZ_gd : Gd Pa.exZ := ⟨Pa.sm_mk (Pa.sm0 0 0) Pa.smL0, by rw [Pa.exZ, Pa.cnt1]; decide⟩
theorem name_sm {s : Pa.Ps} (h : Tt s) : (Pa.nameP s).1.length ≤ 1000 := Nat.le_trans (Pa.mustK_sz h.fin h.sm).1 (by decide)
theorem as_sm {d : Lx.B} (hd : d.length ≤ 1000) {s : Pa.Ps} (h : Tt s) : (Pa.asP d s).1.length ≤ 1000 := by
  unfold Pa.asP
  split
  · exact name_sm (h.le (Pa.takeW_le _ h.fin).1)
  · exact hd
section
variable (F : Nat)
theorem item_gd {s : Pa.Ps} (h : Tt s) : GdI (Pa.itemP (Pa.lev F 0) s).1 := by
  unfold Pa.itemP
  split
  · exact ⟨exZ_gd, Nat.zero_le _⟩
  · exact ⟨lev_gd F 0 h, as_sm (Nat.zero_le _) (h.le (Pa.lev_le F 0 s h.fin))⟩
theorem source_gd {s : Pa.Ps} (h : Tt s) : GdS (Pa.sourceP s).1 := ⟨exZ_gd, name_sm h, as_sm (name_sm h) (h.le (Pa.nameP_le h.fin))⟩
theorem joined_gd (k : Nat) {s : Pa.Ps} (h : Tt s) : GdS (Pa.joinedP (Pa.lev F 0) k s).1 := by
  have h1 := h.le (Pa.sourceP_le h.fin)
  have h2 := h1.le (Pa.mustW_le Pa.wON h1.fin)
  have hs := source_gd h
  exact ⟨lev_gd F 0 h2, hs.tb, hs.nm⟩
theorem key_gd {s : Pa.Ps} (h : Tt s) : GdK (Pa.keyP s).1 := ⟨name_sm h⟩
theorem more_gd {α : Type} {G : α → Prop} {thing : Pa.Ps → α × Pa.Ps} {w : Lx.B} {ws : List Lx.B} (hl : ∀ s, Pa.Fin s.ts → Pa.Le s (thing s).2) (hg : ∀ s, Tt s → G (thing s).1) : ∀ (n : Nat) (l : List α) (s : Pa.Ps), Tt s → (∀ x ∈ l, G x) → ∀ x ∈ (Pa.moreP thing w ws n l s).1, G x
  | 0, _, _, _, h => h
  | n + 1, l, s, ht, h => by
    rw [Pa.moreP]
    split
    · have h1 := ht.le (Pa.takeAll_le w ws ht.fin).1
      refine more_gd hl hg n _ _ (h1.le (hl _ h1.fin)) fun x hx => ?_
      rcases List.mem_append.1 hx with hx | hx
      · exact h x hx
      · obtain rfl := List.mem_singleton.1 hx; exact hg _ h1
    · exact h
theorem list_gd {α : Type} {G : α → Prop} {thing : Pa.Ps → α × Pa.Ps} {w : Lx.B} {ws : List Lx.B} (hl : ∀ s, Pa.Fin s.ts → Pa.Le s (thing s).2) (hg : ∀ s, Tt s → G (thing s).1) {s : Pa.Ps} (h : Tt s) : ∀ x ∈ (Pa.listP thing w ws s).1, G x :=
  more_gd hl hg _ _ _ (h.le (hl s h.fin)) fun x hx => by obtain rfl := List.mem_singleton.1 hx; exact hg s h
theorem sources_gd : ∀ (n : Nat) (l : List Pa.Src) (s : Pa.Ps), Tt s → (∀ x ∈ l, GdS x) → ∀ x ∈ (Pa.sourcesP (Pa.lev F 0) n l s).1, GdS x
  | 0, _, _, _, h => h
  | n + 1, l, s, ht, h => by
    rw [Pa.sourcesP]
    split
    · exact h
    · have h1 := ht.le (Pa.joinP_le ht.fin).1
      refine sources_gd n _ _ (h1.le (Pa.joinedP_le (fun s hs => Pa.lev_le F 0 s hs) _ h1.fin)) fun x hx => ?_
      rcases List.mem_append.1 hx with hx | hx
      · exact h x hx
      · obtain rfl := List.mem_singleton.1 hx; exact joined_gd F _ h1
/-- How many things a list has at most. -/
theorem more_len {α : Type} {thing : Pa.Ps → α × Pa.Ps} {w : Lx.B} {ws : List Lx.B} (hl : ∀ s, Pa.Fin s.ts → Pa.Le s (thing s).2) : ∀ (n : Nat) (l : List α) (s : Pa.Ps), Pa.Fin s.ts → (Pa.moreP thing w ws n l s).1.length ≤ l.length + s.ts.length
  | 0, l, s, _ => by rw [Pa.moreP]; show l.length ≤ _; omega
  | n + 1, l, s, hf => by
    rw [Pa.moreP]
    split
    · rename_i ht
      obtain ⟨h1, h2, _⟩ := Pa.takeAll_le w ws hf
      have h3 := hl _ h1.fin
      have h4 := more_len (w := w) (ws := ws) hl n (l ++ [(thing (Pa.takeAll w ws s).2).1]) _ h3.fin
      have := (h2 ht).2
      have := h3.len
      simp only [List.length_append, List.length_singleton] at h4
      omega
    · simp only; omega
theorem list_len {α : Type} {thing : Pa.Ps → α × Pa.Ps} {w : Lx.B} {ws : List Lx.B} (hl : ∀ s, Pa.Fin s.ts → Pa.Le s (thing s).2) {s : Pa.Ps} (h : Tt s) : (Pa.listP thing w ws s).1.length ≤ 1000000 := by
  have h1 := hl s h.fin
  have h2 := more_len (w := w) (ws := ws) hl (thing s).2.ts.length [(thing s).1] _ h1.fin
  have := h1.len
  have := h.len
  simp only [List.length_singleton] at h2
  unfold Pa.listP
  omega
theorem sources_len : ∀ (n : Nat) (l : List Pa.Src) (s : Pa.Ps), Pa.Fin s.ts → (Pa.sourcesP (Pa.lev F 0) n l s).1.length ≤ l.length + s.ts.length
  | 0, l, s, _ => by rw [Pa.sourcesP]; show l.length ≤ _; omega
  | n + 1, l, s, hf => by
    rw [Pa.sourcesP]
    split
    · simp only; omega
    · rename_i hz
      obtain ⟨h1, h2, _⟩ := Pa.joinP_le hf
      have h3 := Pa.joinedP_le (fun s hs => Pa.lev_le F 0 s hs) (Pa.joinP s).1 h1.fin
      have h4 := sources_len n (l ++ [(Pa.joinedP (Pa.lev F 0) (Pa.joinP s).1 (Pa.joinP s).2).1]) _ h3.fin
      have := (h2 hz).2
      have := h3.len
      simp only [List.length_append, List.length_singleton] at h4
      omega
/-- A part that is small, of lists that are not long. -/
def GdL2 (s : Pa.Sel) : Prop := GdL s ∧ s.its.length ≤ 1000000 ∧ s.frs.length ≤ 1000000 ∧ s.grp.length ≤ 1000000
theorem item_le' (s : Pa.Ps) (h : Pa.Fin s.ts) : Pa.Le s (Pa.itemP (Pa.lev F 0) s).2 := Pa.itemP_le (fun s hs => Pa.lev_le F 0 s hs) h
theorem part_le' (s : Pa.Ps) (h : Pa.Fin s.ts) : Pa.Le s (Pa.partP (Pa.lev F 0) s).2 := Pa.partP_le (fun s hs => Pa.lev_le F 0 s hs) h
theorem part_gd {s : Pa.Ps} (h : Tt s) : GdL2 (Pa.partP (Pa.lev F 0) s).1 := by
  have h1 := h.le (Pa.mustW_le Pa.wSELECT h.fin)
  have h2 := h1.le (Pa.takeW_le Pa.wDISTINCT h1.fin).1
  have h3 := h2.le (Pa.listP_le (w := [44]) (ws := []) (item_le' F) h2.fin)
  have h4 := h3.le (Pa.mustW_le Pa.wFROM h3.fin)
  have h5 := h4.le (Pa.fromP_le (fun s hs => Pa.lev_le F 0 s hs) h4.fin)
  have h6 := h5.le (Pa.whereP_le (fun s hs => Pa.lev_le F 0 s hs) h5.fin)
  have hs4 := h4.le (Pa.sourceP_le h4.fin)
  refine ⟨⟨list_gd (item_le' F) (fun s hs => item_gd F hs) h2, ?_, ?_, ?_⟩, list_len (item_le' F) h2, ?_, ?_⟩
  · exact sources_gd F _ _ _ hs4 fun x hx => by obtain rfl := List.mem_singleton.1 hx; exact source_gd h4
  · show Gd (Pa.whereP (Pa.lev F 0) _).1
    unfold Pa.whereP
    split
    · exact lev_gd F 0 (h5.le (Pa.takeW_le _ h5.fin).1)
    · exact exZ_gd
  · show ∀ g ∈ (Pa.groupP _).1, Gd g
    unfold Pa.groupP
    split
    · exact list_gd (fun s hs => Pa.colP_le hs) (fun s hs => col_gd hs) (h6.le (Pa.takeAll_le _ _ h6.fin).1)
    · intro g hg; cases hg
  · have := sources_len F (Pa.sourceP (Pa.mustW Pa.wFROM (Pa.listP (Pa.itemP (Pa.lev F 0)) [44] [] (Pa.takeW Pa.wDISTINCT (Pa.mustW Pa.wSELECT s)).2).2)).2.ts.length [(Pa.sourceP (Pa.mustW Pa.wFROM (Pa.listP (Pa.itemP (Pa.lev F 0)) [44] [] (Pa.takeW Pa.wDISTINCT (Pa.mustW Pa.wSELECT s)).2).2)).1] _ hs4.fin
    have := hs4.len
    simp only [List.length_singleton] at *
    show (Pa.fromP (Pa.lev F 0) _).1.length ≤ _
    unfold Pa.fromP
    omega
  · show (Pa.groupP _).1.length ≤ _
    unfold Pa.groupP
    split
    · exact list_len (fun s hs => Pa.colP_le hs) (h6.le (Pa.takeAll_le _ _ h6.fin).1)
    · exact Nat.zero_le _
def GdQ2 (q : Pa.Qu) : Prop := (∀ s ∈ q.parts, GdL2 s) ∧ (∀ k ∈ q.order, GdK k) ∧ q.parts.length ≤ 1000000 ∧ q.order.length ≤ 1000000
theorem query_gd {s : Pa.Ps} (h : Tt s) : GdQ2 (Pa.queryP (Pa.lev F 0) s).1 := by
  have h1 := h.le (Pa.listP_le (w := Pa.wUNION) (ws := [Pa.wALL]) (part_le' F) h.fin)
  refine ⟨list_gd (part_le' F) (fun s hs => part_gd F hs) h, ?_, list_len (part_le' F) h, ?_⟩
  · show ∀ k ∈ (Pa.orderP _).1, GdK k
    unfold Pa.orderP
    split
    · exact list_gd (fun s hs => Pa.keyP_le hs) (fun s hs => key_gd hs) (h1.le (Pa.takeAll_le _ _ h1.fin).1)
    · intro k hk; cases hk
  · show (Pa.orderP _).1.length ≤ _
    unfold Pa.orderP
    split
    · exact list_len (fun s hs => Pa.keyP_le hs) (h1.le (Pa.takeAll_le _ _ h1.fin).1)
    · exact Nat.zero_le _
end
end Go.Proofs.YtfjimoccliejdaaGreatDoor
end
section
namespace Go.Proofs.YtfjimoccliejdaaGreatDoor
open Go.RowKit Go.Shelf

theorem cut_some_z {l : Lx.B} {t : Lx.Tok} {z : Nat} (h : Lx.cut l = some (t, z)) (hl : l ≠ []) : z ≤ l.length := (Lx.cut_inv hl h).1
end Go.Proofs.YtfjimoccliejdaaGreatDoor
end
section
namespace Go.Proofs.YtfjimoccliejdaaGreatDoor
open Go.RowKit Go.Shelf

inductive PRes (α : Type) where
  | bad (n k : Nat)
  | ok (x : α)
/-- What a rule reads of a text, behind which the text ends, if it may be. -/
def whR {α : Type} (f : Pa.Ps → α × Pa.Ps) (chk : α → Bool) (l : Lx.B) : PRes α :=
  match Lx.lx (l.length + 1) l 0 0 with
  | .bad n k => .bad n k
  | .ok ts _ => if (f ⟨ts, false⟩).2.bad = true ∨ (f ⟨ts, false⟩).2.tk.k ≠ 6 then .bad (f ⟨ts, false⟩).2.at 110 else if chk (f ⟨ts, false⟩).1 then .ok (f ⟨ts, false⟩).1 else .bad 0 3
def WhE {α : Type} (P : Lay α) (zc : Array Value) (r : PRes α) (w : World) (e : Ending) (w' : World) : Prop :=
  match r with
  | .bad n k => e = .returned (.tuple #[.agg zc, .int .i64 n, .int .i64 k]) ∧ Below w.heap.size w w'
  | .ok x => ∃ c, e = .returned (.tuple #[.agg c.toArray, .int .i64 0, .int .i64 0]) ∧ P (Bt w.heap.size w'.heap.size) w' x c ∧ Below w.heap.size w w'
theorem lx_bad_k : ∀ (f : Nat) (l : Lx.B) (c a n k : Nat), l.length < f → Lx.lx f l c a = .bad n k → k = 90 ∨ k = 3
  | 0, l, c, a, n, k, hl, _ => by omega
  | f + 1, l, c, a, n, k, hl, h => by
    cases hc : Lx.cut (l.drop (Lx.sk false l)) with
    | none => rw [lx_none hc] at h; cases h; exact .inl rfl
    | some x =>
      obtain ⟨t, z⟩ := x
      by_cases h4 : c = 4096
      · subst h4; rw [lx_long hc] at h; cases h; exact .inr rfl
      · by_cases h6 : t.k = 6
        · rw [lx_fin hc h4 h6] at h; cases h
        · have hz := (cut_kind hc).2 h6
          have hne : l.drop (Lx.sk false l) ≠ [] := by
            intro e
            rw [e] at hc
            cases hc
            exact h6 rfl
          have hzl := cut_some_z hc hne
          have hm := lx_more (f := f) (a := a) hc h4 h6 []
          simp only [List.length_drop] at hzl
          have hr : ∃ n' k', Lx.lx f ((l.drop (Lx.sk false l)).drop z) (c + 1) (a + Lx.sk false l + z) = .bad n' k' ∧ k' = k := by
            rw [Lx.lx, hc] at h
            simp only [h4, h6, if_false] at h
            cases hr : Lx.lx f ((l.drop (Lx.sk false l)).drop z) (c + 1) (a + Lx.sk false l + z) with
            | ok ts m => rw [hr] at h; cases h
            | bad n' k' => rw [hr] at h; cases h; exact ⟨_, _, rfl, rfl⟩
          obtain ⟨n', k', hr, rfl⟩ := hr
          exact lx_bad_k f _ _ _ _ _ (by simp only [List.length_drop]; omega) hr
/-- The tokens that were made, in memory. -/
theorem own_tk {base : Nat} {W : World} {v : Value} {l : List TkA} (h : W.ownsRow base 66 4 v l.length (tks l)) (hl : l ≠ []) : ∃ g cap, v = .slice (some ⟨g, 0, none⟩) l.length cap ∧ TkAt W (some ⟨g, 0, none⟩) l ∧ l.length ≤ cap ∧ base ≤ g ∧ g < W.heap.size := by
  rcases h.2 with ⟨_, h0⟩ | ⟨g, cap, cur, hv, hb1, hg, hc, hm, hsz, ht⟩
  · exact absurd (List.eq_nil_of_length_eq_zero h0) hl
  · refine ⟨g, cap, hv, .inr ⟨g, 0, rfl, fun j u hj => ?_⟩, hc, hb1, (Array.getElem?_eq_some_iff.1 hg).1⟩
    have hjl := (List.getElem?_eq_some_iff.1 hj).1
    rw [tks_len] at hjl
    have e : cur.toList[j]? = (tks l)[j]? := by rw [← ht, List.getElem?_take_of_lt hjl]
    rw [Nat.zero_add]
    simp only [World.cell?, hg]
    rw [← Array.getElem?_toList, e, hj]
    simp
theorem field_tokK (k : Int) (b : ByteArray) (n a : Int) (w : World) : (Instr.field 66 (.agg #[.int .i64 k, .string b, .int .i64 n, .int .i64 a]) 0).run Tryz.prog w = .ok (.int .i64 k) w := by kernel_rfl
theorem field_tokA (k : Int) (b : ByteArray) (n a : Int) (w : World) : (Instr.field 66 (.agg #[.int .i64 k, .string b, .int .i64 n, .int .i64 a]) 3).run Tryz.prog w = .ok (.int .i64 a) w := by kernel_rfl
/-- The first state of a text's tokens. -/
theorem text_tt {l : Lx.B} {ts : List TkA} {n : Nat} (h : Lx.lx (l.length + 1) l 0 0 = .ok ts n) : Tt ⟨ts, false⟩ ∧ ts ≠ [] := by
  obtain ⟨ht, hl⟩ := Lx.toks_of _ _ _ _ _ _ (by omega) h
  exact ⟨⟨Pa.toks_fin ht, Pa.toks_sm ht, by show ts.length ≤ 5000; omega⟩, by have := (Pa.toks_fin ht).ne; intro e; rw [e] at this; simp at this⟩
theorem onu_below {U : Nat} {w v W : World} (h : OnU U v W) (hU : w.heap.size = U) (hb : Below w.heap.size w v) : Below w.heap.size w W :=
  ⟨h.os.trans hb.os, h.tape.trans hb.tape, h.output.trans hb.output, by rw [h.size]; exact hb.size, fun k hk => (h.block k (by omega)).trans (hb.block k hk)⟩
theorem BxU.butm {m : Nat} {w w' : World} {U : Nat} {cs : Array Value} {T : TypeId} (h : BxU w U cs T) (hm : U < m) (hb : ButM m w w') : BxU w' U cs T := by
  unfold BxU at h ⊢
  exact (hb.block U (Array.getElem?_eq_some_iff.1 h).1 (by omega)).trans h
end Go.Proofs.YtfjimoccliejdaaGreatDoor
end
section
namespace Go.Proofs.YtfjimoccliejdaaGreatDoor
open Go.RowKit Go.Shelf

set_option maxRecDepth 100000 in
set_option maxHeartbeats 8000000 in
theorem wholeE_any (s : ByteArray) (w : World) (hs : s.size ≤ 16384) (hT : Tabs w) (hO : TabO w) :
    Calls Tryz.prog 28 #[.string s, .func (.func 29) #[] #[], .func (.func 30) #[] #[]] w (WhE exC #[.int .i64 0, .int .i64 0, .int .i64 0, .int .i64 0, .string ⟨#[]⟩, .string ⟨#[]⟩, .string ⟨#[]⟩, .slice none 0 0] (whR (Pa.lev 40008 0) okX (bs s)) w) := by
  obtain ⟨X, hX⟩ : ∃ X, whR (Pa.lev 40008 0) okX (bs s) = X := ⟨_, rfl⟩
  rw [hX]
  obtain ⟨R, hR⟩ : ∃ R, Lx.lx ((bs s).length + 1) (bs s) 0 0 = R := ⟨_, rfl⟩
  have HX := Lib.hid (show X = match (motive := Lx.Res → PRes _) R with
    | .bad n k => .bad n k
    | .ok ts _ => if ((Pa.lev 40008 0) ⟨ts, false⟩).2.bad = true ∨ ((Pa.lev 40008 0) ⟨ts, false⟩).2.tk.k ≠ 6 then .bad ((Pa.lev 40008 0) ⟨ts, false⟩).2.at 110 else if okX ((Pa.lev 40008 0) ⟨ts, false⟩).1 then .ok ((Pa.lev 40008 0) ⟨ts, false⟩).1 else .bad 0 3 by rw [← hX, ← hR]; rfl)
  have hb1 := ba w (.cells #[.int .i64 0, .int .i64 0, .int .i64 0, .int .i64 0, .string ⟨#[]⟩, .string ⟨#[]⟩, .string ⟨#[]⟩, .slice none 0 0] 37)
  have hb2 := ba (w.alloc (.cells #[.int .i64 0, .int .i64 0, .int .i64 0, .int .i64 0, .string ⟨#[]⟩, .string ⟨#[]⟩, .string ⟨#[]⟩, .slice none 0 0] 37)) (.cells #[.int .i64 0, .int .i64 0, .int .i64 0, .int .i64 0, .string ⟨#[]⟩, .string ⟨#[]⟩, .string ⟨#[]⟩, .slice none 0 0] 37)
  have HB := Lib.hid (bt hb1 hb2)
  obtain ⟨U, hU⟩ : ∃ U, w.heap.size = U := ⟨_, rfl⟩
  have HUl := Lib.hid hU
  have hN0 := (MapKept.heap_alloc (w.alloc (.cells #[.int .i64 0, .int .i64 0, .int .i64 0, .int .i64 0, .string ⟨#[]⟩, .string ⟨#[]⟩, .string ⟨#[]⟩, .slice none 0 0] 37)) (.cells #[.int .i64 0, .int .i64 0, .int .i64 0, .int .i64 0, .string ⟨#[]⟩, .string ⟨#[]⟩, .string ⟨#[]⟩, .slice none 0 0] 37)).1
  rw [World.size_alloc, hU] at hN0
  have HN0 := Lib.hid (show BxU _ (U + 1) #[.int .i64 0, .int .i64 0, .int .i64 0, .int .i64 0, .string ⟨#[]⟩, .string ⟨#[]⟩, .string ⟨#[]⟩, .slice none 0 0] 37 from hN0)
  have hU0 := hb2.block w.heap.size (by rw [World.size_alloc]; omega) |>.trans (MapKept.heap_alloc w (.cells #[.int .i64 0, .int .i64 0, .int .i64 0, .int .i64 0, .string ⟨#[]⟩, .string ⟨#[]⟩, .string ⟨#[]⟩, .slice none 0 0] 37)).1
  rw [hU] at hU0
  have HU0 := Lib.hid (show BxU _ U #[.int .i64 0, .int .i64 0, .int .i64 0, .int .i64 0, .string ⟨#[]⟩, .string ⟨#[]⟩, .string ⟨#[]⟩, .slice none 0 0] 37 from hU0)
  have HSz := Lib.hid (show ((w.alloc (.cells #[.int .i64 0, .int .i64 0, .int .i64 0, .int .i64 0, .string ⟨#[]⟩, .string ⟨#[]⟩, .string ⟨#[]⟩, .slice none 0 0] 37)).alloc (.cells #[.int .i64 0, .int .i64 0, .int .i64 0, .int .i64 0, .string ⟨#[]⟩, .string ⟨#[]⟩, .string ⟨#[]⟩, .slice none 0 0] 37)).heap.size = U + 2 by rw [World.size_alloc, World.size_alloc, hU])
  have HA := Lib.hid (all_any s ((w.alloc (.cells #[.int .i64 0, .int .i64 0, .int .i64 0, .int .i64 0, .string ⟨#[]⟩, .string ⟨#[]⟩, .string ⟨#[]⟩, .slice none 0 0] 37)).alloc (.cells #[.int .i64 0, .int .i64 0, .int .i64 0, .int .i64 0, .string ⟨#[]⟩, .string ⟨#[]⟩, .string ⟨#[]⟩, .slice none 0 0] 37)) hs (hT.kept HB.out))
  rw [show s.size + 1 = (bs s).length + 1 by rw [bs_len], hR] at HA
  have HT := Lib.hid hT
  have HO := Lib.hid hO
  have HRr := Lib.hid hR
  clear hX hR hb1 hb2 hN0 hU0 hT hO
  go_enter Tryz.func28, Tryz.ntmps28
  go_wp2_with fail
  generalize (w.alloc (.cells #[.int .i64 0, .int .i64 0, .int .i64 0, .int .i64 0, .string ⟨#[]⟩, .string ⟨#[]⟩, .string ⟨#[]⟩, .slice none 0 0] 37)).alloc (.cells #[.int .i64 0, .int .i64 0, .int .i64 0, .int .i64 0, .string ⟨#[]⟩, .string ⟨#[]⟩, .string ⟨#[]⟩, .slice none 0 0] 37) = W2 at HB HN0 HU0 HSz HA ⊢
  clear hU
  refine HA.out.mono ?_
  rintro e v1 ⟨v, rfl, hv, hb⟩
  have HB1 := Lib.hid (bt HB.out hb)
  have HN1 := Lib.hid (HN0.out.next hb)
  have HU1 := Lib.hid (HU0.out.next hb)
  have HS1 := Lib.hid (show U + 2 ≤ v1.heap.size by rw [← HSz.out]; exact hb.size)
  clear hb
  cases R with
  | bad n k =>
    have hk := lx_bad_k _ _ _ _ _ _ (Nat.lt_succ_self _) HRr.out
    have hk0 : ¬ ((k : Int) = 0) := by omega
    have hv2 : v = .tuple #[.slice none 0 0, .int .i64 n, .int .i64 k] := hv
    subst hv2
    have HXe := Lib.hid (show X = .bad n k from HX.out)
    clear hv hk
    have n0 : v1.cell? ⟨U + 1, 0, none⟩ = some (.int .i64 0) := HN1.out.cell 0
    have n1 : v1.cell? ⟨U + 1, 1, none⟩ = some (.int .i64 0) := HN1.out.cell 1
    have n2 : v1.cell? ⟨U + 1, 2, none⟩ = some (.int .i64 0) := HN1.out.cell 2
    have n3 : v1.cell? ⟨U + 1, 3, none⟩ = some (.int .i64 0) := HN1.out.cell 3
    have n4 : v1.cell? ⟨U + 1, 4, none⟩ = some (.string ⟨#[]⟩) := HN1.out.cell 4
    have n5 : v1.cell? ⟨U + 1, 5, none⟩ = some (.string ⟨#[]⟩) := HN1.out.cell 5
    have n6 : v1.cell? ⟨U + 1, 6, none⟩ = some (.string ⟨#[]⟩) := HN1.out.cell 6
    have n7 : v1.cell? ⟨U + 1, 7, none⟩ = some (.slice none 0 0) := HN1.out.cell 7
    have u0 : v1.cell? ⟨U, 0, none⟩ = some (.int .i64 0) := HU1.out.cell 0
    have u1 : v1.cell? ⟨U, 1, none⟩ = some (.int .i64 0) := HU1.out.cell 1
    have u2 : v1.cell? ⟨U, 2, none⟩ = some (.int .i64 0) := HU1.out.cell 2
    have u3 : v1.cell? ⟨U, 3, none⟩ = some (.int .i64 0) := HU1.out.cell 3
    have u4 : v1.cell? ⟨U, 4, none⟩ = some (.string ⟨#[]⟩) := HU1.out.cell 4
    have u5 : v1.cell? ⟨U, 5, none⟩ = some (.string ⟨#[]⟩) := HU1.out.cell 5
    have u6 : v1.cell? ⟨U, 6, none⟩ = some (.string ⟨#[]⟩) := HU1.out.cell 6
    have u7 : v1.cell? ⟨U, 7, none⟩ = some (.slice none 0 0) := HU1.out.cell 7
    have fu0 := HU1.out.frozen 0
    have fu1 := HU1.out.frozen 1
    have fu2 := HU1.out.frozen 2
    have fu3 := HU1.out.frozen 3
    have fu4 := HU1.out.frozen 4
    have fu5 := HU1.out.frozen 5
    have fu6 := HU1.out.frozen 6
    have fu7 := HU1.out.frozen 7
    go_wp2_with fail
    exact bodyPost_ret (v := .tuple #[.agg #[.int .i64 0, .int .i64 0, .int .i64 0, .int .i64 0, .string ⟨#[]⟩, .string ⟨#[]⟩, .string ⟨#[]⟩, .slice none 0 0], .int .i64 n, .int .i64 k]) (by simp [results, Tryz.results28, go_sem, u0, u1, u2, u3, u4, u5, u6, u7]) rfl (by rw [HXe.out]; exact ⟨rfl, onu_below (OnU.refl _ _).set.set.set.set.set.set.set.set HUl.out HB1.out⟩)
  | ok ts n0 =>
    obtain ⟨l, hv2, ho⟩ := hv
    subst hv2
    obtain ⟨htt, hne⟩ := text_tt HRr.out
    obtain ⟨g, cap, rfl, hat, hcap, hg1, hg2⟩ := own_tk ho hne
    have hbm := ba v1 (rbox (some ⟨g, 0, none⟩) ts.length cap false)
    have hmb := (MapKept.heap_alloc v1 (rbox (some ⟨g, 0, none⟩) ts.length cap false)).1
    obtain ⟨m, hm⟩ : ∃ m, v1.heap.size = m := ⟨_, rfl⟩
    have hgm : 0 < m := by
      have h1 := lt_of_cell (HO.out 0 (by decide))
      have h2 := HB1.out.size
      rw [← hm]
      exact Nat.lt_of_lt_of_le h1 h2
    have HRS := Lib.hid (show RS m (v1.alloc (rbox (some ⟨g, 0, none⟩) ts.length cap false)) ⟨ts, false⟩ from ⟨⟨some ⟨g, 0, none⟩, cap, by rw [← hm]; exact hmb, hat.kept hbm, hcap, fun a ha => by cases ha; show g < m; omega⟩, htt.fin, TabO.low HO.out (lt_of_cell (HO.out 0 (by decide))) fun k hk => (bt HB1.out hbm).block k hk, hgm⟩)
    have HBm := Lib.hid (bt HB1.out hbm)
    have HNm := Lib.hid (HN1.out.next hbm)
    have HUm := Lib.hid (HU1.out.next hbm)
    have HTt := Lib.hid htt
    have HmU := Lib.hid (show U + 2 ≤ m by rw [← hm]; exact HS1.out)
    have HSm := Lib.hid (show (v1.alloc (rbox (some ⟨g, 0, none⟩) ts.length cap false)).heap.size = m + 1 by rw [World.size_alloc, hm])
    have HRu := Lib.hid ((levs_any m 40008 5000).1 (by decide) ⟨ts, false⟩ _ HRS.out htt.len)
    have HG := Lib.hid (lev_gd 40008 0 htt)
    obtain ⟨⟨x1, s1⟩, hq⟩ : ∃ q, (Pa.lev 40008 0) ⟨ts, false⟩ = q := ⟨_, rfl⟩
    rw [hq] at HRu HG
    have HQ := Lib.hid hq
    simp only at HRu HG
    clear ho htt hne hat hcap hg1 hg2 hbm hmb hgm hq
    go_wp2_with fail
    clear hm
    refine HRu.out.mono ?_
    rintro e v2 ⟨c, rfl, hC, hR, hM⟩
    have hC0 := hC
    obtain ⟨⟨hd, A, n, cp⟩, rfl, hqq⟩ := hC0
    rw [show (xcell (hd, A, n, cp)).toArray = #[.int .i64 hd.k, .int .i64 hd.n, .int .i64 hd.vk, .int .i64 hd.vn, .string hd.vs, .string hd.tab, .string hd.col, .slice A n cp] from rfl]
    have HB2 := Lib.hid (show Below w.heap.size w v2 from HBm.out.trans (hM.below (by have := HmU.out; have := HUl.out; omega) HBm.out.size))
    have HN2 := Lib.hid (HNm.out.butm (by have := HmU.out; omega) hM)
    have HU2 := Lib.hid (HUm.out.butm (by have := HmU.out; omega) hM)
    have hbv := ba v2 (.cells #[.int .i64 hd.k, .int .i64 hd.n, .int .i64 hd.vk, .int .i64 hd.vn, .string hd.vs, .string hd.tab, .string hd.col, .slice A n cp] 37)
    have HVv := Lib.hid (show BxU (v2.alloc (.cells #[.int .i64 hd.k, .int .i64 hd.n, .int .i64 hd.vk, .int .i64 hd.vn, .string hd.vs, .string hd.tab, .string hd.col, .slice A n cp] 37)) v2.heap.size #[.int .i64 hd.k, .int .i64 hd.n, .int .i64 hd.vk, .int .i64 hd.vn, .string hd.vs, .string hd.tab, .string hd.col, .slice A n cp] 37 from (MapKept.heap_alloc v2 (.cells #[.int .i64 hd.k, .int .i64 hd.n, .int .i64 hd.vk, .int .i64 hd.vn, .string hd.vs, .string hd.tab, .string hd.col, .slice A n cp] 37)).1)
    have HR3 := Lib.hid (hR.next hbv)
    have HB3 := Lib.hid (bt HB2.out hbv)
    have HN3 := Lib.hid (HN2.out.next hbv)
    have HU3 := Lib.hid (HU2.out.next hbv)
    have HC3 := Lib.hid (exC_ok.keep (a := m + 1) (b := v2.heap.size) hbv (Nat.le_refl _) (by rw [HSm.out] at hC; exact hC))
    have HL3 := Lib.hid (show v2.heap.size ≤ (v2.alloc (.cells #[.int .i64 hd.k, .int .i64 hd.n, .int .i64 hd.vk, .int .i64 hd.vn, .string hd.vs, .string hd.tab, .string hd.col, .slice A n cp] 37)).heap.size from hbv.size)
    have hmV : m < v2.heap.size := by have := hM.size; rw [HSm.out] at this; omega
    clear hqq hC hR hM hbv
    obtain ⟨x0, _, _, _, _, hx0, htk, hat0, _⟩ := HR3.out.rd.head HR3.out.fin
    have HXX := Lib.hid (show X = if s1.bad = true ∨ s1.tk.k ≠ 6 then .bad s1.at 110 else if okX x1 = true then .ok x1 else .bad 0 3 by
      have h : X = (if ((Pa.lev 40008 0) ⟨ts, false⟩).2.bad = true ∨ ((Pa.lev 40008 0) ⟨ts, false⟩).2.tk.k ≠ 6 then .bad ((Pa.lev 40008 0) ⟨ts, false⟩).2.at 110 else if okX ((Pa.lev 40008 0) ⟨ts, false⟩).1 then .ok ((Pa.lev 40008 0) ⟨ts, false⟩).1 else .bad 0 3) := HX.out
      rw [HQ.out] at h
      exact h)
    have HNx := Lib.hid (show ∀ W, Below (v2.alloc (.cells #[.int .i64 hd.k, .int .i64 hd.n, .int .i64 hd.vk, .int .i64 hd.vn, .string hd.vs, .string hd.tab, .string hd.col, .slice A n cp] 37)).heap.size (v2.alloc (.cells #[.int .i64 hd.k, .int .i64 hd.n, .int .i64 hd.vk, .int .i64 hd.vn, .string hd.vs, .string hd.tab, .string hd.col, .slice A n cp] 37)) W → Calls Tryz.prog 40 #[.pointer (some ⟨m, 0, none⟩)] W (fun e w4 => e = .returned (tkv x0) ∧ Hid (Below (v2.alloc (.cells #[.int .i64 hd.k, .int .i64 hd.n, .int .i64 hd.vk, .int .i64 hd.vn, .string hd.vs, .string hd.tab, .string hd.col, .slice A n cp] 37)).heap.size (v2.alloc (.cells #[.int .i64 hd.k, .int .i64 hd.n, .int .i64 hd.vk, .int .i64 hd.vn, .string hd.vs, .string hd.tab, .string hd.col, .slice A n cp] 37)) w4) ∧ w4.cell? ⟨U + 1, 0, none⟩ = some (.int .i64 0) ∧ w4.cell? ⟨U + 1, 1, none⟩ = some (.int .i64 0) ∧ w4.cell? ⟨U + 1, 2, none⟩ = some (.int .i64 0) ∧ w4.cell? ⟨U + 1, 3, none⟩ = some (.int .i64 0) ∧ w4.cell? ⟨U + 1, 4, none⟩ = some (.string ⟨#[]⟩) ∧ w4.cell? ⟨U + 1, 5, none⟩ = some (.string ⟨#[]⟩) ∧ w4.cell? ⟨U + 1, 6, none⟩ = some (.string ⟨#[]⟩) ∧ w4.cell? ⟨U + 1, 7, none⟩ = some (.slice none 0 0) ∧ w4.cell? ⟨U, 0, none⟩ = some (.int .i64 0) ∧ w4.cell? ⟨U, 1, none⟩ = some (.int .i64 0) ∧ w4.cell? ⟨U, 2, none⟩ = some (.int .i64 0) ∧ w4.cell? ⟨U, 3, none⟩ = some (.int .i64 0) ∧ w4.cell? ⟨U, 4, none⟩ = some (.string ⟨#[]⟩) ∧ w4.cell? ⟨U, 5, none⟩ = some (.string ⟨#[]⟩) ∧ w4.cell? ⟨U, 6, none⟩ = some (.string ⟨#[]⟩) ∧ w4.cell? ⟨U, 7, none⟩ = some (.slice none 0 0) ∧ w4.frozen? ⟨U, 0, none⟩ = false ∧ w4.frozen? ⟨U, 1, none⟩ = false ∧ w4.frozen? ⟨U, 2, none⟩ = false ∧ w4.frozen? ⟨U, 3, none⟩ = false ∧ w4.frozen? ⟨U, 4, none⟩ = false ∧ w4.frozen? ⟨U, 5, none⟩ = false ∧ w4.frozen? ⟨U, 6, none⟩ = false ∧ w4.frozen? ⟨U, 7, none⟩ = false) from fun W hW => (next_any m s1 W (HR3.out.next hW).rd HR3.out.fin).mono (fun e w4 hE => by
      obtain ⟨⟨y, hy, _, _, rfl⟩, hb⟩ := hE
      rw [hx0] at hy
      cases hy
      have hb3 := bt hW hb
      exact ⟨rfl, Lib.hid hb3, (HN3.out.next hb3).cell 0, (HN3.out.next hb3).cell 1, (HN3.out.next hb3).cell 2, (HN3.out.next hb3).cell 3, (HN3.out.next hb3).cell 4, (HN3.out.next hb3).cell 5, (HN3.out.next hb3).cell 6, (HN3.out.next hb3).cell 7, (HU3.out.next hb3).cell 0, (HU3.out.next hb3).cell 1, (HU3.out.next hb3).cell 2, (HU3.out.next hb3).cell 3, (HU3.out.next hb3).cell 4, (HU3.out.next hb3).cell 5, (HU3.out.next hb3).cell 6, (HU3.out.next hb3).cell 7, (HU3.out.next hb3).frozen 0, (HU3.out.next hb3).frozen 1, (HU3.out.next hb3).frozen 2, (HU3.out.next hb3).frozen 3, (HU3.out.next hb3).frozen 4, (HU3.out.next hb3).frozen 5, (HU3.out.next hb3).frozen 6, (HU3.out.next hb3).frozen 7⟩))
    have HAt := Lib.hid hat0
    have HTk := Lib.hid htk
    clear hx0 htk hat0 hmV
    have c1 := HR3.out.c1
    have hfa : ∀ W : World, _ := field_tokA x0.1.k ⟨x0.1.s.toArray⟩ x0.1.n x0.2
    have hfk : ∀ W : World, _ := field_tokK x0.1.k ⟨x0.1.s.toArray⟩ x0.1.n x0.2
    cases hbad : s1.bad with
    | true =>
      rw [hbad] at c1
      have HXe := Lib.hid (show X = .bad x0.2 110 by rw [HXX.out, if_pos (.inl hbad), HAt.out])
      clear hbad
      go_wp2_with fail
      generalize (v2.alloc (.cells #[.int .i64 hd.k, .int .i64 hd.n, .int .i64 hd.vk, .int .i64 hd.vn, .string hd.vs, .string hd.tab, .string hd.col, .slice A n cp] 37)) = W3 at HR3 HB3 HN3 HU3 HC3 HL3 HVv HNx c1 ⊢
      have n0 : W3.cell? ⟨U + 1, 0, none⟩ = some (.int .i64 0) := HN3.out.cell 0
      have n1 : W3.cell? ⟨U + 1, 1, none⟩ = some (.int .i64 0) := HN3.out.cell 1
      have n2 : W3.cell? ⟨U + 1, 2, none⟩ = some (.int .i64 0) := HN3.out.cell 2
      have n3 : W3.cell? ⟨U + 1, 3, none⟩ = some (.int .i64 0) := HN3.out.cell 3
      have n4 : W3.cell? ⟨U + 1, 4, none⟩ = some (.string ⟨#[]⟩) := HN3.out.cell 4
      have n5 : W3.cell? ⟨U + 1, 5, none⟩ = some (.string ⟨#[]⟩) := HN3.out.cell 5
      have n6 : W3.cell? ⟨U + 1, 6, none⟩ = some (.string ⟨#[]⟩) := HN3.out.cell 6
      have n7 : W3.cell? ⟨U + 1, 7, none⟩ = some (.slice none 0 0) := HN3.out.cell 7
      go_region_with (refine (HNx.out _ (by repeat (first | exact Below.refl _ _ | refine Below.drew ?_))).mono ?_; rintro e w4 ⟨rfl, hb4, n0, n1, n2, n3, n4, n5, n6, n7, u0, u1, u2, u3, u4, u5, u6, u7, fu0, fu1, fu2, fu3, fu4, fu5, fu6, fu7⟩)
      all_goals
        have HB4 := Lib.hid (bt HB3.out hb4.out)
        clear hb4
        go_wp2_with fail
        exact bodyPost_ret (v := .tuple #[.agg #[.int .i64 0, .int .i64 0, .int .i64 0, .int .i64 0, .string ⟨#[]⟩, .string ⟨#[]⟩, .string ⟨#[]⟩, .slice none 0 0], .int .i64 x0.2, .int .i64 110]) (by simp [results, Tryz.results28, go_sem, u0, u1, u2, u3, u4, u5, u6, u7]) rfl (by rw [HXe.out]; exact ⟨rfl, onu_below (OnU.refl _ _).set.set.set.set.set.set.set.set HUl.out HB4.out⟩)
    | false =>
      rw [hbad] at c1
      have HBd := Lib.hid hbad
      clear hbad
      go_wp2_with fail
      generalize (v2.alloc (.cells #[.int .i64 hd.k, .int .i64 hd.n, .int .i64 hd.vk, .int .i64 hd.vn, .string hd.vs, .string hd.tab, .string hd.col, .slice A n cp] 37)) = W3 at HR3 HB3 HN3 HU3 HC3 HL3 HVv HNx c1 ⊢
      refine (HNx.out _ (Below.refl _ _)).mono ?_
      rintro e w4 ⟨rfl, hb4, n0, n1, n2, n3, n4, n5, n6, n7, u0, u1, u2, u3, u4, u5, u6, u7, fu0, fu1, fu2, fu3, fu4, fu5, fu6, fu7⟩
      have HR4 := Lib.hid (HR3.out.next hb4.out)
      have HB4 := Lib.hid (bt HB3.out hb4.out)
      have HN4 := Lib.hid (HN3.out.next hb4.out)
      have HU4 := Lib.hid (HU3.out.next hb4.out)
      have HV4 := Lib.hid (HVv.out.next hb4.out)
      have HW4 := Lib.hid hb4.out
      clear hb4 c1
      by_cases hk6 : x0.1.k = 6
      case neg =>
        have hk6b : ¬ ((x0.1.k : Int) = 6) := by omega
        have HXe := Lib.hid (show X = .bad x0.2 110 by rw [HXX.out, if_pos (.inr (by rw [HTk.out]; exact hk6)), HAt.out])
        have HNy := Lib.hid (fun (W : World) (hW : Below w4.heap.size w4 W) => HNx.out W (bt HW4.out hW))
        clear hk6
        go_wp2_with fail
        go_region_with (refine (HNy.out _ (by repeat (first | exact Below.refl _ _ | refine Below.drew ?_))).mono ?_; rintro e w5 ⟨rfl, hb5, q0, q1, q2, q3, q4, q5, q6, q7, r0, r1, r2, r3, r4, r5, r6, r7, fr0, fr1, fr2, fr3, fr4, fr5, fr6, fr7⟩)
        all_goals
          have HB5 := Lib.hid (bt HB3.out hb5.out)
          clear hb5
          go_wp2_with fail
          exact bodyPost_ret (v := .tuple #[.agg #[.int .i64 0, .int .i64 0, .int .i64 0, .int .i64 0, .string ⟨#[]⟩, .string ⟨#[]⟩, .string ⟨#[]⟩, .slice none 0 0], .int .i64 x0.2, .int .i64 110]) (by simp [results, Tryz.results28, go_sem, r0, r1, r2, r3, r4, r5, r6, r7]) rfl (by rw [HXe.out]; exact ⟨rfl, onu_below (OnU.refl _ _).set.set.set.set.set.set.set.set HUl.out HB5.out⟩)

      case pos =>
        have hk6b : ((x0.1.k : Int) = 6) := by omega
        have HX6 := Lib.hid (show X = if okX x1 = true then .ok x1 else .bad 0 3 by rw [HXX.out, if_neg]; rintro (h | h) <;> first | (rw [HBd.out] at h; cases h) | exact h (by rw [HTk.out]; exact hk6))
        clear hk6
        have b0 : w4.cell? ⟨v2.heap.size, 0, none⟩ = some (.int .i64 hd.k) := HV4.out.cell 0
        have b1 : w4.cell? ⟨v2.heap.size, 1, none⟩ = some (.int .i64 hd.n) := HV4.out.cell 1
        have b2 : w4.cell? ⟨v2.heap.size, 2, none⟩ = some (.int .i64 hd.vk) := HV4.out.cell 2
        have b3 : w4.cell? ⟨v2.heap.size, 3, none⟩ = some (.int .i64 hd.vn) := HV4.out.cell 3
        have b4 : w4.cell? ⟨v2.heap.size, 4, none⟩ = some (.string hd.vs) := HV4.out.cell 4
        have b5 : w4.cell? ⟨v2.heap.size, 5, none⟩ = some (.string hd.tab) := HV4.out.cell 5
        have b6 : w4.cell? ⟨v2.heap.size, 6, none⟩ = some (.string hd.col) := HV4.out.cell 6
        have b7 : w4.cell? ⟨v2.heap.size, 7, none⟩ = some (.slice A n cp) := HV4.out.cell 7
        have HC4 := Lib.hid (show exC (Ab w4) w4 x1 (xcell (hd, A, n, cp)) from exC_ok.go (fun k hk => HW4.out.block k (Nat.lt_of_lt_of_le hk.2 HL3.out)) (fun k hk => Nat.lt_of_lt_of_le hk.2 (Nat.le_trans HL3.out HW4.out.size)) HC3.out)
        cases hok : okX x1 with
        | false =>
          have HXe := Lib.hid (show X = .bad 0 3 by rw [HX6.out, hok]; rfl)
          have HCk := Lib.hid (show Calls Tryz.prog 30 #[.agg #[.int .i64 hd.k, .int .i64 hd.n, .int .i64 hd.vk, .int .i64 hd.vn, .string hd.vs, .string hd.tab, .string hd.col, .slice A n cp]] w4 (fun e w5 => e = .returned (.int .i64 100) ∧ Below w4.heap.size w4 w5) from (ev_check (exC_of_ev HC4.out) HG.out.sm (Nat.le_trans HG.out.cnt (by decide)) (HT.out.kept HB4.out) (show chkI x1 = 100 by rw [chk_of, hok]; rfl)).mono (by rintro e w5 ⟨u, rfl, hb, rfl⟩; exact ⟨rfl, hb⟩))
          clear hok
          go_wp2_with fail
          refine HCk.out.mono ?_
          rintro e w5 ⟨rfl, hb⟩
          have HB5 := Lib.hid (bt HB4.out hb)
          have q0 : w5.cell? ⟨U + 1, 0, none⟩ = some (.int .i64 0) := (HN4.out.next hb).cell 0
          have q1 : w5.cell? ⟨U + 1, 1, none⟩ = some (.int .i64 0) := (HN4.out.next hb).cell 1
          have q2 : w5.cell? ⟨U + 1, 2, none⟩ = some (.int .i64 0) := (HN4.out.next hb).cell 2
          have q3 : w5.cell? ⟨U + 1, 3, none⟩ = some (.int .i64 0) := (HN4.out.next hb).cell 3
          have q4 : w5.cell? ⟨U + 1, 4, none⟩ = some (.string ⟨#[]⟩) := (HN4.out.next hb).cell 4
          have q5 : w5.cell? ⟨U + 1, 5, none⟩ = some (.string ⟨#[]⟩) := (HN4.out.next hb).cell 5
          have q6 : w5.cell? ⟨U + 1, 6, none⟩ = some (.string ⟨#[]⟩) := (HN4.out.next hb).cell 6
          have q7 : w5.cell? ⟨U + 1, 7, none⟩ = some (.slice none 0 0) := (HN4.out.next hb).cell 7
          have r0 : w5.cell? ⟨U, 0, none⟩ = some (.int .i64 0) := (HU4.out.next hb).cell 0
          have r1 : w5.cell? ⟨U, 1, none⟩ = some (.int .i64 0) := (HU4.out.next hb).cell 1
          have r2 : w5.cell? ⟨U, 2, none⟩ = some (.int .i64 0) := (HU4.out.next hb).cell 2
          have r3 : w5.cell? ⟨U, 3, none⟩ = some (.int .i64 0) := (HU4.out.next hb).cell 3
          have r4 : w5.cell? ⟨U, 4, none⟩ = some (.string ⟨#[]⟩) := (HU4.out.next hb).cell 4
          have r5 : w5.cell? ⟨U, 5, none⟩ = some (.string ⟨#[]⟩) := (HU4.out.next hb).cell 5
          have r6 : w5.cell? ⟨U, 6, none⟩ = some (.string ⟨#[]⟩) := (HU4.out.next hb).cell 6
          have r7 : w5.cell? ⟨U, 7, none⟩ = some (.slice none 0 0) := (HU4.out.next hb).cell 7
          have fr0 : w5.frozen? ⟨U, 0, none⟩ = false := (HU4.out.next hb).frozen 0
          have fr1 : w5.frozen? ⟨U, 1, none⟩ = false := (HU4.out.next hb).frozen 1
          have fr2 : w5.frozen? ⟨U, 2, none⟩ = false := (HU4.out.next hb).frozen 2
          have fr3 : w5.frozen? ⟨U, 3, none⟩ = false := (HU4.out.next hb).frozen 3
          have fr4 : w5.frozen? ⟨U, 4, none⟩ = false := (HU4.out.next hb).frozen 4
          have fr5 : w5.frozen? ⟨U, 5, none⟩ = false := (HU4.out.next hb).frozen 5
          have fr6 : w5.frozen? ⟨U, 6, none⟩ = false := (HU4.out.next hb).frozen 6
          have fr7 : w5.frozen? ⟨U, 7, none⟩ = false := (HU4.out.next hb).frozen 7
          clear hb
          go_wp2_with fail
          exact bodyPost_ret (v := .tuple #[.agg #[.int .i64 0, .int .i64 0, .int .i64 0, .int .i64 0, .string ⟨#[]⟩, .string ⟨#[]⟩, .string ⟨#[]⟩, .slice none 0 0], .int .i64 0, .int .i64 3]) (by simp [results, Tryz.results28, go_sem, r0, r1, r2, r3, r4, r5, r6, r7]) rfl (by rw [HXe.out]; exact ⟨rfl, onu_below ((OnU.refl U w5).set.set.set.set.set.set.set.set) HUl.out HB5.out⟩)
        | true =>
          have HXe := Lib.hid (show X = .ok x1 by rw [HX6.out, hok]; rfl)
          have HCk := Lib.hid (show Calls Tryz.prog 30 #[.agg #[.int .i64 hd.k, .int .i64 hd.n, .int .i64 hd.vk, .int .i64 hd.vn, .string hd.vs, .string hd.tab, .string hd.col, .slice A n cp]] w4 (fun e w5 => e = .returned (.int .i64 0) ∧ Below w4.heap.size w4 w5) from (ev_check (exC_of_ev HC4.out) HG.out.sm (Nat.le_trans HG.out.cnt (by decide)) (HT.out.kept HB4.out) (show chkI x1 = 0 by rw [chk_of, hok]; rfl)).mono (by rintro e w5 ⟨u, rfl, hb, rfl⟩; exact ⟨rfl, hb⟩))
          clear hok
          go_wp2_with fail
          refine HCk.out.mono ?_
          rintro e w5 ⟨rfl, hb⟩
          have HB5 := Lib.hid (bt HB4.out hb)
          have HW5 := Lib.hid (bt HW4.out hb)
          have b0 : w5.cell? ⟨v2.heap.size, 0, none⟩ = some (.int .i64 hd.k) := (HV4.out.next hb).cell 0
          have b1 : w5.cell? ⟨v2.heap.size, 1, none⟩ = some (.int .i64 hd.n) := (HV4.out.next hb).cell 1
          have b2 : w5.cell? ⟨v2.heap.size, 2, none⟩ = some (.int .i64 hd.vk) := (HV4.out.next hb).cell 2
          have b3 : w5.cell? ⟨v2.heap.size, 3, none⟩ = some (.int .i64 hd.vn) := (HV4.out.next hb).cell 3
          have b4 : w5.cell? ⟨v2.heap.size, 4, none⟩ = some (.string hd.vs) := (HV4.out.next hb).cell 4
          have b5 : w5.cell? ⟨v2.heap.size, 5, none⟩ = some (.string hd.tab) := (HV4.out.next hb).cell 5
          have b6 : w5.cell? ⟨v2.heap.size, 6, none⟩ = some (.string hd.col) := (HV4.out.next hb).cell 6
          have b7 : w5.cell? ⟨v2.heap.size, 7, none⟩ = some (.slice A n cp) := (HV4.out.next hb).cell 7
          have r0 : w5.cell? ⟨U, 0, none⟩ = some (.int .i64 0) := (HU4.out.next hb).cell 0
          have r1 : w5.cell? ⟨U, 1, none⟩ = some (.int .i64 0) := (HU4.out.next hb).cell 1
          have r2 : w5.cell? ⟨U, 2, none⟩ = some (.int .i64 0) := (HU4.out.next hb).cell 2
          have r3 : w5.cell? ⟨U, 3, none⟩ = some (.int .i64 0) := (HU4.out.next hb).cell 3
          have r4 : w5.cell? ⟨U, 4, none⟩ = some (.string ⟨#[]⟩) := (HU4.out.next hb).cell 4
          have r5 : w5.cell? ⟨U, 5, none⟩ = some (.string ⟨#[]⟩) := (HU4.out.next hb).cell 5
          have r6 : w5.cell? ⟨U, 6, none⟩ = some (.string ⟨#[]⟩) := (HU4.out.next hb).cell 6
          have r7 : w5.cell? ⟨U, 7, none⟩ = some (.slice none 0 0) := (HU4.out.next hb).cell 7
          have fr0 : w5.frozen? ⟨U, 0, none⟩ = false := (HU4.out.next hb).frozen 0
          have fr1 : w5.frozen? ⟨U, 1, none⟩ = false := (HU4.out.next hb).frozen 1
          have fr2 : w5.frozen? ⟨U, 2, none⟩ = false := (HU4.out.next hb).frozen 2
          have fr3 : w5.frozen? ⟨U, 3, none⟩ = false := (HU4.out.next hb).frozen 3
          have fr4 : w5.frozen? ⟨U, 4, none⟩ = false := (HU4.out.next hb).frozen 4
          have fr5 : w5.frozen? ⟨U, 5, none⟩ = false := (HU4.out.next hb).frozen 5
          have fr6 : w5.frozen? ⟨U, 6, none⟩ = false := (HU4.out.next hb).frozen 6
          have fr7 : w5.frozen? ⟨U, 7, none⟩ = false := (HU4.out.next hb).frozen 7
          clear hb
          go_wp2_with fail
          exact bodyPost_ret (v := .tuple #[.agg #[.int .i64 hd.k, .int .i64 hd.n, .int .i64 hd.vk, .int .i64 hd.vn, .string hd.vs, .string hd.tab, .string hd.col, .slice A n cp], .int .i64 0, .int .i64 0]) (by simp [results, Tryz.results28, go_sem, r0, r1, r2, r3, r4, r5, r6, r7]) rfl (by rw [HXe.out]; exact ⟨(xcell (hd, A, n, cp)), rfl, exC_ok.go (fun k hk => (((OnU.refl U w5).set.set.set.set.set.set.set.set).block k (by have := hk.1; have := HmU.out; omega)).trans (HW5.out.block k (Nat.lt_of_lt_of_le hk.2 HL3.out))) (fun k hk => ⟨by have := hk.1; have := HmU.out; have := HUl.out; omega, by rw [((OnU.refl U w5).set.set.set.set.set.set.set.set).size]; exact Nat.lt_of_lt_of_le hk.2 (Nat.le_trans HL3.out HW5.out.size)⟩) HC3.out, onu_below ((OnU.refl U w5).set.set.set.set.set.set.set.set) HUl.out HB5.out⟩)
end Go.Proofs.YtfjimoccliejdaaGreatDoor
end
section
namespace Go.Proofs.YtfjimoccliejdaaGreatDoor
open Go.RowKit Go.Shelf

set_option maxRecDepth 100000 in
set_option maxHeartbeats 4000000 in
theorem lsIt_any {G : Pa.Itm → Prop} {p : Pa.Itm → Bool} (HP : OkB itC 100 G p) (least most : Nat) (hm : most ≤ 1000) (_hls : least ≤ 1000) (l : List Pa.Itm) (A : Option Addr) (c : Nat) (w : World) (h : Ls itC (Ab w) w l A) (hG : ∀ x ∈ l, G x) (hT : Tabs w) (hl : l.length ≤ 1000000) {b : Bool} (hb : lsB least most p l = b) :
    Calls Tryz.prog 99 #[.slice A l.length c, .int .i64 least, .int .i64 most, .func (.func 100) #[] #[]] w fun e w' => e = .returned (.bool b) ∧ Below w.heap.size w w' := by
  have H0 := Lib.hid h
  have HG := Lib.hid hG
  have HT := Lib.hid hT
  have HX := Lib.hid hb
  have HPp := Lib.hid HP
  clear h hG hT hb HP
  by_cases h1 : l.length < least
  · have h1I : (l.length : Int) < (least : Int) := by omega
    have HXe := Lib.hid (show b = false by rw [← HX.out, lsB, decide_eq_false (by omega)]; rfl)
    go_enter Tryz.func99, Tryz.ntmps99
    go_wp2_with fail
    exact bodyPost_ret (v := .bool false) (by simp [results, Tryz.results99, go_sem]) rfl ⟨by rw [HXe.out], Below.refl _ _⟩
  by_cases h2 : most < l.length
  · have h1I : ¬ ((l.length : Int) < (least : Int)) := by omega
    have h2I : (most : Int) < (l.length : Int) := by omega
    have HXe := Lib.hid (show b = false by rw [← HX.out, lsB, decide_eq_false (p := l.length ≤ most) (by omega), Bool.and_false]; rfl)
    go_enter Tryz.func99, Tryz.ntmps99
    go_wp2_with fail
    exact bodyPost_ret (v := .bool false) (by simp [results, Tryz.results99, go_sem]) rfl ⟨by rw [HXe.out], Below.refl _ _⟩
  have h1I : ¬ ((l.length : Int) < (least : Int)) := by omega
  have h2I : ¬ ((most : Int) < (l.length : Int)) := by omega
  have HX2 := Lib.hid (show l.all p = b by rw [← HX.out, lsB, decide_eq_true (p := least ≤ l.length) (by omega), decide_eq_true (p := l.length ≤ most) (by omega)]; rfl)
  go_enter Tryz.func99, Tryz.ntmps99
  go_wp2_with fail
  go_loopw [23] (fun i wr => ∃ j : Nat, j ≤ l.length ∧ i = .int .i64 j ∧ Hid (Below w.heap.size w wr) ∧ Hid ((l.take j).all p = true)) (fun i _ => l.length - (intOf i).toNat)
  case atStart => exact ⟨0, Nat.zero_le _, rfl, Lib.hid (Below.refl _ _), Lib.hid (by simp)⟩
  case round =>
    obtain ⟨j, hj, rfl, HB, HN⟩ := hrel
    by_cases hlt : j < l.length
    · obtain ⟨x, hx⟩ : ∃ x, l[j]? = some x := ⟨_, List.getElem?_eq_getElem hlt⟩
      obtain ⟨g, o, cc, rfl, _, hp, hc⟩ := (H0.out.nxt itC_ok HB.out).at itC_ok hx
      have hp0 := hp
      obtain ⟨hd, A9, n, cp, rfl, _⟩ := itC_ex hp
      have b0 : wr.cell? ⟨g, o + j * 10, none⟩ = some (.bool x.star) := hc 0 _ rfl
      have b1 : wr.cell? ⟨g, o + j * 10 + 1, none⟩ = some (.int .i64 hd.k) := hc 1 _ rfl
      have b2 : wr.cell? ⟨g, o + j * 10 + 2, none⟩ = some (.int .i64 hd.n) := hc 2 _ rfl
      have b3 : wr.cell? ⟨g, o + j * 10 + 3, none⟩ = some (.int .i64 hd.vk) := hc 3 _ rfl
      have b4 : wr.cell? ⟨g, o + j * 10 + 4, none⟩ = some (.int .i64 hd.vn) := hc 4 _ rfl
      have b5 : wr.cell? ⟨g, o + j * 10 + 5, none⟩ = some (.string hd.vs) := hc 5 _ rfl
      have b6 : wr.cell? ⟨g, o + j * 10 + 6, none⟩ = some (.string hd.tab) := hc 6 _ rfl
      have b7 : wr.cell? ⟨g, o + j * 10 + 7, none⟩ = some (.string hd.col) := hc 7 _ rfl
      have b8 : wr.cell? ⟨g, o + j * 10 + 8, none⟩ = some (.slice A9 n cp) := hc 8 _ rfl
      have b9 : wr.cell? ⟨g, o + j * 10 + 9, none⟩ = some (st x.nm) := hc 9 _ rfl
      have HS := Lib.hid (all_take_s p l j hlt)
      have hxe : l[j] = x := by rw [List.getElem?_eq_getElem hlt] at hx; exact Option.some.inj hx
      rw [hxe] at HS
      have hb1 := ba wr (.cells #[.bool x.star, .int .i64 hd.k, .int .i64 hd.n, .int .i64 hd.vk, .int .i64 hd.vn, .string hd.vs, .string hd.tab, .string hd.col, .slice A9 n cp, st x.nm] 49)
      have HP1 := Lib.hid (HPp.out x _ (wr.alloc (.cells #[.bool x.star, .int .i64 hd.k, .int .i64 hd.n, .int .i64 hd.vk, .int .i64 hd.vn, .string hd.vs, .string hd.tab, .string hd.col, .slice A9 n cp, st x.nm] 49)) (itC_ok.ab hb1 hp0) (HG.out x (List.mem_of_getElem? hx)) ((HT.out.kept HB.out).kept hb1))
      have HB1 := Lib.hid (bt HB.out hb1)
      obtain ⟨t, ht⟩ : ∃ t, p x = t := ⟨_, rfl⟩
      rw [ht] at HP1 HS
      have HMx := Lib.hid (show x ∈ l from List.mem_of_getElem? hx)
      have HTt := Lib.hid ht
      clear hp0 hc hx hxe hb1 ht
      cases t
      · have HXe := Lib.hid (show b = false by
          rw [← HX2.out, List.all_eq_false]
          exact ⟨x, HMx.out, by rw [HTt.out]; simp⟩)
        go_wp2_with fail
        refine HP1.out.mono ?_
        rintro e w1 ⟨rfl, hb2⟩
        have HB2 := Lib.hid (bt HB1.out hb2)
        clear hb2
        go_wp2_with fail
        exact bodyPost_ret (v := .bool false) (by simp [results, Tryz.results99, go_sem]) rfl ⟨by rw [HXe.out], HB2.out⟩
      · have HE := Lib.hid (show (l.take (j + 1)).all p = true by rw [HS.out, HN.out]; rfl)
        go_wp2_with fail
        refine HP1.out.mono ?_
        rintro e w1 ⟨rfl, hb2⟩
        have HB2 := Lib.hid (bt HB1.out hb2)
        clear hb2
        go_wp2_with fail
        go_roundw
        case rel => exact ⟨j + 1, by omega, by go_num, HB2, HE⟩
        case measure => simp [intOf]; omega
    · have HXe := Lib.hid (show b = true by rw [← HX2.out, ← HN.out, List.take_of_length_le (by omega)])
      go_wp2_with fail
      exact bodyPost_ret (v := .bool true) (by simp [results, Tryz.results99, go_sem]) rfl ⟨by rw [HXe.out], HB.out⟩
set_option maxRecDepth 100000 in
set_option maxHeartbeats 4000000 in
theorem lsGr_any {G : Ex → Prop} {p : Ex → Bool} (HP : OkB exC 108 G p) (least most : Nat) (hm : most ≤ 1000) (_hls : least ≤ 1000) (l : List Ex) (A : Option Addr) (c : Nat) (w : World) (h : Ls exC (Ab w) w l A) (hG : ∀ x ∈ l, G x) (hT : Tabs w) (hl : l.length ≤ 1000000) {b : Bool} (hb : lsB least most p l = b) :
    Calls Tryz.prog 107 #[.slice A l.length c, .int .i64 least, .int .i64 most, .func (.func 108) #[] #[]] w fun e w' => e = .returned (.bool b) ∧ Below w.heap.size w w' := by
  have H0 := Lib.hid h
  have HG := Lib.hid hG
  have HT := Lib.hid hT
  have HX := Lib.hid hb
  have HPp := Lib.hid HP
  clear h hG hT hb HP
  by_cases h1 : l.length < least
  · have h1I : (l.length : Int) < (least : Int) := by omega
    have HXe := Lib.hid (show b = false by rw [← HX.out, lsB, decide_eq_false (by omega)]; rfl)
    go_enter Tryz.func107, Tryz.ntmps107
    go_wp2_with fail
    exact bodyPost_ret (v := .bool false) (by simp [results, Tryz.results107, go_sem]) rfl ⟨by rw [HXe.out], Below.refl _ _⟩
  by_cases h2 : most < l.length
  · have h1I : ¬ ((l.length : Int) < (least : Int)) := by omega
    have h2I : (most : Int) < (l.length : Int) := by omega
    have HXe := Lib.hid (show b = false by rw [← HX.out, lsB, decide_eq_false (p := l.length ≤ most) (by omega), Bool.and_false]; rfl)
    go_enter Tryz.func107, Tryz.ntmps107
    go_wp2_with fail
    exact bodyPost_ret (v := .bool false) (by simp [results, Tryz.results107, go_sem]) rfl ⟨by rw [HXe.out], Below.refl _ _⟩
  have h1I : ¬ ((l.length : Int) < (least : Int)) := by omega
  have h2I : ¬ ((most : Int) < (l.length : Int)) := by omega
  have HX2 := Lib.hid (show l.all p = b by rw [← HX.out, lsB, decide_eq_true (p := least ≤ l.length) (by omega), decide_eq_true (p := l.length ≤ most) (by omega)]; rfl)
  go_enter Tryz.func107, Tryz.ntmps107
  go_wp2_with fail
  go_loopw [23] (fun i wr => ∃ j : Nat, j ≤ l.length ∧ i = .int .i64 j ∧ Hid (Below w.heap.size w wr) ∧ Hid ((l.take j).all p = true)) (fun i _ => l.length - (intOf i).toNat)
  case atStart => exact ⟨0, Nat.zero_le _, rfl, Lib.hid (Below.refl _ _), Lib.hid (by simp)⟩
  case round =>
    obtain ⟨j, hj, rfl, HB, HN⟩ := hrel
    by_cases hlt : j < l.length
    · obtain ⟨x, hx⟩ : ∃ x, l[j]? = some x := ⟨_, List.getElem?_eq_getElem hlt⟩
      obtain ⟨g, o, cc, rfl, _, hp, hc⟩ := (H0.out.nxt exC_ok HB.out).at exC_ok hx
      have hp0 := hp
      obtain ⟨A9, cp, rfl, _, _⟩ := exC_form hp
      have b0 : wr.cell? ⟨g, o + j * 8, none⟩ = some (.int .i64 x.hd.k) := hc 0 _ rfl
      have b1 : wr.cell? ⟨g, o + j * 8 + 1, none⟩ = some (.int .i64 x.hd.n) := hc 1 _ rfl
      have b2 : wr.cell? ⟨g, o + j * 8 + 2, none⟩ = some (.int .i64 x.hd.vk) := hc 2 _ rfl
      have b3 : wr.cell? ⟨g, o + j * 8 + 3, none⟩ = some (.int .i64 x.hd.vn) := hc 3 _ rfl
      have b4 : wr.cell? ⟨g, o + j * 8 + 4, none⟩ = some (.string x.hd.vs) := hc 4 _ rfl
      have b5 : wr.cell? ⟨g, o + j * 8 + 5, none⟩ = some (.string x.hd.tab) := hc 5 _ rfl
      have b6 : wr.cell? ⟨g, o + j * 8 + 6, none⟩ = some (.string x.hd.col) := hc 6 _ rfl
      have b7 : wr.cell? ⟨g, o + j * 8 + 7, none⟩ = some (.slice A9 x.kids.length cp) := hc 7 _ rfl
      have HS := Lib.hid (all_take_s p l j hlt)
      have hxe : l[j] = x := by rw [List.getElem?_eq_getElem hlt] at hx; exact Option.some.inj hx
      rw [hxe] at HS
      have hb1 := ba wr (.cells #[.int .i64 x.hd.k, .int .i64 x.hd.n, .int .i64 x.hd.vk, .int .i64 x.hd.vn, .string x.hd.vs, .string x.hd.tab, .string x.hd.col, .slice A9 x.kids.length cp] 37)
      have HP1 := Lib.hid (HPp.out x _ (wr.alloc (.cells #[.int .i64 x.hd.k, .int .i64 x.hd.n, .int .i64 x.hd.vk, .int .i64 x.hd.vn, .string x.hd.vs, .string x.hd.tab, .string x.hd.col, .slice A9 x.kids.length cp] 37)) (exC_ok.ab hb1 hp0) (HG.out x (List.mem_of_getElem? hx)) ((HT.out.kept HB.out).kept hb1))
      have HB1 := Lib.hid (bt HB.out hb1)
      obtain ⟨t, ht⟩ : ∃ t, p x = t := ⟨_, rfl⟩
      rw [ht] at HP1 HS
      have HMx := Lib.hid (show x ∈ l from List.mem_of_getElem? hx)
      have HTt := Lib.hid ht
      clear hp0 hc hx hxe hb1 ht
      cases t
      · have HXe := Lib.hid (show b = false by
          rw [← HX2.out, List.all_eq_false]
          exact ⟨x, HMx.out, by rw [HTt.out]; simp⟩)
        go_wp2_with fail
        refine HP1.out.mono ?_
        rintro e w1 ⟨rfl, hb2⟩
        have HB2 := Lib.hid (bt HB1.out hb2)
        clear hb2
        go_wp2_with fail
        exact bodyPost_ret (v := .bool false) (by simp [results, Tryz.results107, go_sem]) rfl ⟨by rw [HXe.out], HB2.out⟩
      · have HE := Lib.hid (show (l.take (j + 1)).all p = true by rw [HS.out, HN.out]; rfl)
        go_wp2_with fail
        refine HP1.out.mono ?_
        rintro e w1 ⟨rfl, hb2⟩
        have HB2 := Lib.hid (bt HB1.out hb2)
        clear hb2
        go_wp2_with fail
        go_roundw
        case rel => exact ⟨j + 1, by omega, by go_num, HB2, HE⟩
        case measure => simp [intOf]; omega
    · have HXe := Lib.hid (show b = true by rw [← HX2.out, ← HN.out, List.take_of_length_le (by omega)])
      go_wp2_with fail
      exact bodyPost_ret (v := .bool true) (by simp [results, Tryz.results107, go_sem]) rfl ⟨by rw [HXe.out], HB.out⟩
end Go.Proofs.YtfjimoccliejdaaGreatDoor
end
section
namespace Go.Proofs.YtfjimoccliejdaaGreatDoor
open Go.RowKit Go.Shelf

set_option maxRecDepth 100000 in
set_option maxHeartbeats 4000000 in
theorem lsSo_any {G : Pa.Src → Prop} {p : Pa.Src → Bool} (HP : OkB srC 102 G p) (least most : Nat) (hm : most ≤ 1000) (_hls : least ≤ 1000) (l : List Pa.Src) (A : Option Addr) (c : Nat) (w : World) (h : Ls srC (Ab w) w l A) (hG : ∀ x ∈ l, G x) (hT : Tabs w) (hl : l.length ≤ 1000000) {b : Bool} (hb : lsB least most p l = b) :
    Calls Tryz.prog 101 #[.slice A l.length c, .int .i64 least, .int .i64 most, .func (.func 102) #[] #[]] w fun e w' => e = .returned (.bool b) ∧ Below w.heap.size w w' := by
  have H0 := Lib.hid h
  have HG := Lib.hid hG
  have HT := Lib.hid hT
  have HX := Lib.hid hb
  have HPp := Lib.hid HP
  clear h hG hT hb HP
  by_cases h1 : l.length < least
  · have h1I : (l.length : Int) < (least : Int) := by omega
    have HXe := Lib.hid (show b = false by rw [← HX.out, lsB, decide_eq_false (by omega)]; rfl)
    go_enter Tryz.func101, Tryz.ntmps101
    go_wp2_with fail
    exact bodyPost_ret (v := .bool false) (by simp [results, Tryz.results101, go_sem]) rfl ⟨by rw [HXe.out], Below.refl _ _⟩
  by_cases h2 : most < l.length
  · have h1I : ¬ ((l.length : Int) < (least : Int)) := by omega
    have h2I : (most : Int) < (l.length : Int) := by omega
    have HXe := Lib.hid (show b = false by rw [← HX.out, lsB, decide_eq_false (p := l.length ≤ most) (by omega), Bool.and_false]; rfl)
    go_enter Tryz.func101, Tryz.ntmps101
    go_wp2_with fail
    exact bodyPost_ret (v := .bool false) (by simp [results, Tryz.results101, go_sem]) rfl ⟨by rw [HXe.out], Below.refl _ _⟩
  have h1I : ¬ ((l.length : Int) < (least : Int)) := by omega
  have h2I : ¬ ((most : Int) < (l.length : Int)) := by omega
  have HX2 := Lib.hid (show l.all p = b by rw [← HX.out, lsB, decide_eq_true (p := least ≤ l.length) (by omega), decide_eq_true (p := l.length ≤ most) (by omega)]; rfl)
  go_enter Tryz.func101, Tryz.ntmps101
  go_wp2_with fail
  go_loopw [23] (fun i wr => ∃ j : Nat, j ≤ l.length ∧ i = .int .i64 j ∧ Hid (Below w.heap.size w wr) ∧ Hid ((l.take j).all p = true)) (fun i _ => l.length - (intOf i).toNat)
  case atStart => exact ⟨0, Nat.zero_le _, rfl, Lib.hid (Below.refl _ _), Lib.hid (by simp)⟩
  case round =>
    obtain ⟨j, hj, rfl, HB, HN⟩ := hrel
    by_cases hlt : j < l.length
    · obtain ⟨x, hx⟩ : ∃ x, l[j]? = some x := ⟨_, List.getElem?_eq_getElem hlt⟩
      obtain ⟨g, o, cc, rfl, _, hp, hc⟩ := (H0.out.nxt srC_ok HB.out).at srC_ok hx
      have hp0 := hp
      obtain ⟨hd, A9, n, cp, rfl, _⟩ := srC_ex hp
      have b0 : wr.cell? ⟨g, o + j * 11, none⟩ = some (st x.tb) := hc 0 _ rfl
      have b1 : wr.cell? ⟨g, o + j * 11 + 1, none⟩ = some (st x.nm) := hc 1 _ rfl
      have b2 : wr.cell? ⟨g, o + j * 11 + 2, none⟩ = some (.int .i64 x.join) := hc 2 _ rfl
      have b3 : wr.cell? ⟨g, o + j * 11 + 3, none⟩ = some (.int .i64 hd.k) := hc 3 _ rfl
      have b4 : wr.cell? ⟨g, o + j * 11 + 4, none⟩ = some (.int .i64 hd.n) := hc 4 _ rfl
      have b5 : wr.cell? ⟨g, o + j * 11 + 5, none⟩ = some (.int .i64 hd.vk) := hc 5 _ rfl
      have b6 : wr.cell? ⟨g, o + j * 11 + 6, none⟩ = some (.int .i64 hd.vn) := hc 6 _ rfl
      have b7 : wr.cell? ⟨g, o + j * 11 + 7, none⟩ = some (.string hd.vs) := hc 7 _ rfl
      have b8 : wr.cell? ⟨g, o + j * 11 + 8, none⟩ = some (.string hd.tab) := hc 8 _ rfl
      have b9 : wr.cell? ⟨g, o + j * 11 + 9, none⟩ = some (.string hd.col) := hc 9 _ rfl
      have b10 : wr.cell? ⟨g, o + j * 11 + 10, none⟩ = some (.slice A9 n cp) := hc 10 _ rfl
      have HS := Lib.hid (all_take_s p l j hlt)
      have hxe : l[j] = x := by rw [List.getElem?_eq_getElem hlt] at hx; exact Option.some.inj hx
      rw [hxe] at HS
      have hb1 := ba wr (.cells #[st x.tb, st x.nm, .int .i64 x.join, .int .i64 hd.k, .int .i64 hd.n, .int .i64 hd.vk, .int .i64 hd.vn, .string hd.vs, .string hd.tab, .string hd.col, .slice A9 n cp] 51)
      have HP1 := Lib.hid (HPp.out x _ (wr.alloc (.cells #[st x.tb, st x.nm, .int .i64 x.join, .int .i64 hd.k, .int .i64 hd.n, .int .i64 hd.vk, .int .i64 hd.vn, .string hd.vs, .string hd.tab, .string hd.col, .slice A9 n cp] 51)) (srC_ok.ab hb1 hp0) (HG.out x (List.mem_of_getElem? hx)) ((HT.out.kept HB.out).kept hb1))
      have HB1 := Lib.hid (bt HB.out hb1)
      obtain ⟨t, ht⟩ : ∃ t, p x = t := ⟨_, rfl⟩
      rw [ht] at HP1 HS
      have HMx := Lib.hid (show x ∈ l from List.mem_of_getElem? hx)
      have HTt := Lib.hid ht
      clear hp0 hc hx hxe hb1 ht
      cases t
      · have HXe := Lib.hid (show b = false by
          rw [← HX2.out, List.all_eq_false]
          exact ⟨x, HMx.out, by rw [HTt.out]; simp⟩)
        go_wp2_with fail
        refine HP1.out.mono ?_
        rintro e w1 ⟨rfl, hb2⟩
        have HB2 := Lib.hid (bt HB1.out hb2)
        clear hb2
        go_wp2_with fail
        exact bodyPost_ret (v := .bool false) (by simp [results, Tryz.results101, go_sem]) rfl ⟨by rw [HXe.out], HB2.out⟩
      · have HE := Lib.hid (show (l.take (j + 1)).all p = true by rw [HS.out, HN.out]; rfl)
        go_wp2_with fail
        refine HP1.out.mono ?_
        rintro e w1 ⟨rfl, hb2⟩
        have HB2 := Lib.hid (bt HB1.out hb2)
        clear hb2
        go_wp2_with fail
        go_roundw
        case rel => exact ⟨j + 1, by omega, by go_num, HB2, HE⟩
        case measure => simp [intOf]; omega
    · have HXe := Lib.hid (show b = true by rw [← HX2.out, ← HN.out, List.take_of_length_le (by omega)])
      go_wp2_with fail
      exact bodyPost_ret (v := .bool true) (by simp [results, Tryz.results101, go_sem]) rfl ⟨by rw [HXe.out], HB.out⟩
set_option maxRecDepth 100000 in
set_option maxHeartbeats 4000000 in
theorem lsJo_any {G : Pa.Src → Prop} {p : Pa.Src → Bool} (HP : OkB srC 104 G p) (least most : Nat) (hm : most ≤ 1000) (_hls : least ≤ 1000) (l : List Pa.Src) (A : Option Addr) (c : Nat) (w : World) (h : Ls srC (Ab w) w l A) (hG : ∀ x ∈ l, G x) (hT : Tabs w) (hl : l.length ≤ 1000000) {b : Bool} (hb : lsB least most p l = b) :
    Calls Tryz.prog 101 #[.slice A l.length c, .int .i64 least, .int .i64 most, .func (.func 104) #[] #[]] w fun e w' => e = .returned (.bool b) ∧ Below w.heap.size w w' := by
  have H0 := Lib.hid h
  have HG := Lib.hid hG
  have HT := Lib.hid hT
  have HX := Lib.hid hb
  have HPp := Lib.hid HP
  clear h hG hT hb HP
  by_cases h1 : l.length < least
  · have h1I : (l.length : Int) < (least : Int) := by omega
    have HXe := Lib.hid (show b = false by rw [← HX.out, lsB, decide_eq_false (by omega)]; rfl)
    go_enter Tryz.func101, Tryz.ntmps101
    go_wp2_with fail
    exact bodyPost_ret (v := .bool false) (by simp [results, Tryz.results101, go_sem]) rfl ⟨by rw [HXe.out], Below.refl _ _⟩
  by_cases h2 : most < l.length
  · have h1I : ¬ ((l.length : Int) < (least : Int)) := by omega
    have h2I : (most : Int) < (l.length : Int) := by omega
    have HXe := Lib.hid (show b = false by rw [← HX.out, lsB, decide_eq_false (p := l.length ≤ most) (by omega), Bool.and_false]; rfl)
    go_enter Tryz.func101, Tryz.ntmps101
    go_wp2_with fail
    exact bodyPost_ret (v := .bool false) (by simp [results, Tryz.results101, go_sem]) rfl ⟨by rw [HXe.out], Below.refl _ _⟩
  have h1I : ¬ ((l.length : Int) < (least : Int)) := by omega
  have h2I : ¬ ((most : Int) < (l.length : Int)) := by omega
  have HX2 := Lib.hid (show l.all p = b by rw [← HX.out, lsB, decide_eq_true (p := least ≤ l.length) (by omega), decide_eq_true (p := l.length ≤ most) (by omega)]; rfl)
  go_enter Tryz.func101, Tryz.ntmps101
  go_wp2_with fail
  go_loopw [23] (fun i wr => ∃ j : Nat, j ≤ l.length ∧ i = .int .i64 j ∧ Hid (Below w.heap.size w wr) ∧ Hid ((l.take j).all p = true)) (fun i _ => l.length - (intOf i).toNat)
  case atStart => exact ⟨0, Nat.zero_le _, rfl, Lib.hid (Below.refl _ _), Lib.hid (by simp)⟩
  case round =>
    obtain ⟨j, hj, rfl, HB, HN⟩ := hrel
    by_cases hlt : j < l.length
    · obtain ⟨x, hx⟩ : ∃ x, l[j]? = some x := ⟨_, List.getElem?_eq_getElem hlt⟩
      obtain ⟨g, o, cc, rfl, _, hp, hc⟩ := (H0.out.nxt srC_ok HB.out).at srC_ok hx
      have hp0 := hp
      obtain ⟨hd, A9, n, cp, rfl, _⟩ := srC_ex hp
      have b0 : wr.cell? ⟨g, o + j * 11, none⟩ = some (st x.tb) := hc 0 _ rfl
      have b1 : wr.cell? ⟨g, o + j * 11 + 1, none⟩ = some (st x.nm) := hc 1 _ rfl
      have b2 : wr.cell? ⟨g, o + j * 11 + 2, none⟩ = some (.int .i64 x.join) := hc 2 _ rfl
      have b3 : wr.cell? ⟨g, o + j * 11 + 3, none⟩ = some (.int .i64 hd.k) := hc 3 _ rfl
      have b4 : wr.cell? ⟨g, o + j * 11 + 4, none⟩ = some (.int .i64 hd.n) := hc 4 _ rfl
      have b5 : wr.cell? ⟨g, o + j * 11 + 5, none⟩ = some (.int .i64 hd.vk) := hc 5 _ rfl
      have b6 : wr.cell? ⟨g, o + j * 11 + 6, none⟩ = some (.int .i64 hd.vn) := hc 6 _ rfl
      have b7 : wr.cell? ⟨g, o + j * 11 + 7, none⟩ = some (.string hd.vs) := hc 7 _ rfl
      have b8 : wr.cell? ⟨g, o + j * 11 + 8, none⟩ = some (.string hd.tab) := hc 8 _ rfl
      have b9 : wr.cell? ⟨g, o + j * 11 + 9, none⟩ = some (.string hd.col) := hc 9 _ rfl
      have b10 : wr.cell? ⟨g, o + j * 11 + 10, none⟩ = some (.slice A9 n cp) := hc 10 _ rfl
      have HS := Lib.hid (all_take_s p l j hlt)
      have hxe : l[j] = x := by rw [List.getElem?_eq_getElem hlt] at hx; exact Option.some.inj hx
      rw [hxe] at HS
      have hb1 := ba wr (.cells #[st x.tb, st x.nm, .int .i64 x.join, .int .i64 hd.k, .int .i64 hd.n, .int .i64 hd.vk, .int .i64 hd.vn, .string hd.vs, .string hd.tab, .string hd.col, .slice A9 n cp] 51)
      have HP1 := Lib.hid (HPp.out x _ (wr.alloc (.cells #[st x.tb, st x.nm, .int .i64 x.join, .int .i64 hd.k, .int .i64 hd.n, .int .i64 hd.vk, .int .i64 hd.vn, .string hd.vs, .string hd.tab, .string hd.col, .slice A9 n cp] 51)) (srC_ok.ab hb1 hp0) (HG.out x (List.mem_of_getElem? hx)) ((HT.out.kept HB.out).kept hb1))
      have HB1 := Lib.hid (bt HB.out hb1)
      obtain ⟨t, ht⟩ : ∃ t, p x = t := ⟨_, rfl⟩
      rw [ht] at HP1 HS
      have HMx := Lib.hid (show x ∈ l from List.mem_of_getElem? hx)
      have HTt := Lib.hid ht
      clear hp0 hc hx hxe hb1 ht
      cases t
      · have HXe := Lib.hid (show b = false by
          rw [← HX2.out, List.all_eq_false]
          exact ⟨x, HMx.out, by rw [HTt.out]; simp⟩)
        go_wp2_with fail
        refine HP1.out.mono ?_
        rintro e w1 ⟨rfl, hb2⟩
        have HB2 := Lib.hid (bt HB1.out hb2)
        clear hb2
        go_wp2_with fail
        exact bodyPost_ret (v := .bool false) (by simp [results, Tryz.results101, go_sem]) rfl ⟨by rw [HXe.out], HB2.out⟩
      · have HE := Lib.hid (show (l.take (j + 1)).all p = true by rw [HS.out, HN.out]; rfl)
        go_wp2_with fail
        refine HP1.out.mono ?_
        rintro e w1 ⟨rfl, hb2⟩
        have HB2 := Lib.hid (bt HB1.out hb2)
        clear hb2
        go_wp2_with fail
        go_roundw
        case rel => exact ⟨j + 1, by omega, by go_num, HB2, HE⟩
        case measure => simp [intOf]; omega
    · have HXe := Lib.hid (show b = true by rw [← HX2.out, ← HN.out, List.take_of_length_le (by omega)])
      go_wp2_with fail
      exact bodyPost_ret (v := .bool true) (by simp [results, Tryz.results101, go_sem]) rfl ⟨by rw [HXe.out], HB.out⟩
end Go.Proofs.YtfjimoccliejdaaGreatDoor
end
section
namespace Go.Proofs.YtfjimoccliejdaaGreatDoor
open Go.RowKit Go.Shelf

set_option maxRecDepth 100000 in
set_option maxHeartbeats 4000000 in
theorem lsKy_any {G : Pa.Ky → Prop} {p : Pa.Ky → Bool} (HP : OkB kyC 59 G p) (least most : Nat) (hm : most ≤ 1000) (_hls : least ≤ 1000) (l : List Pa.Ky) (A : Option Addr) (c : Nat) (w : World) (h : Ls kyC (Ab w) w l A) (hG : ∀ x ∈ l, G x) (hT : Tabs w) (hl : l.length ≤ 1000000) {b : Bool} (hb : lsB least most p l = b) :
    Calls Tryz.prog 58 #[.slice A l.length c, .int .i64 least, .int .i64 most, .func (.func 59) #[] #[]] w fun e w' => e = .returned (.bool b) ∧ Below w.heap.size w w' := by
  have H0 := Lib.hid h
  have HG := Lib.hid hG
  have HT := Lib.hid hT
  have HX := Lib.hid hb
  have HPp := Lib.hid HP
  clear h hG hT hb HP
  by_cases h1 : l.length < least
  · have h1I : (l.length : Int) < (least : Int) := by omega
    have HXe := Lib.hid (show b = false by rw [← HX.out, lsB, decide_eq_false (by omega)]; rfl)
    go_enter Tryz.func58, Tryz.ntmps58
    go_wp2_with fail
    exact bodyPost_ret (v := .bool false) (by simp [results, Tryz.results58, go_sem]) rfl ⟨by rw [HXe.out], Below.refl _ _⟩
  by_cases h2 : most < l.length
  · have h1I : ¬ ((l.length : Int) < (least : Int)) := by omega
    have h2I : (most : Int) < (l.length : Int) := by omega
    have HXe := Lib.hid (show b = false by rw [← HX.out, lsB, decide_eq_false (p := l.length ≤ most) (by omega), Bool.and_false]; rfl)
    go_enter Tryz.func58, Tryz.ntmps58
    go_wp2_with fail
    exact bodyPost_ret (v := .bool false) (by simp [results, Tryz.results58, go_sem]) rfl ⟨by rw [HXe.out], Below.refl _ _⟩
  have h1I : ¬ ((l.length : Int) < (least : Int)) := by omega
  have h2I : ¬ ((most : Int) < (l.length : Int)) := by omega
  have HX2 := Lib.hid (show l.all p = b by rw [← HX.out, lsB, decide_eq_true (p := least ≤ l.length) (by omega), decide_eq_true (p := l.length ≤ most) (by omega)]; rfl)
  go_enter Tryz.func58, Tryz.ntmps58
  go_wp2_with fail
  go_loopw [23] (fun i wr => ∃ j : Nat, j ≤ l.length ∧ i = .int .i64 j ∧ Hid (Below w.heap.size w wr) ∧ Hid ((l.take j).all p = true)) (fun i _ => l.length - (intOf i).toNat)
  case atStart => exact ⟨0, Nat.zero_le _, rfl, Lib.hid (Below.refl _ _), Lib.hid (by simp)⟩
  case round =>
    obtain ⟨j, hj, rfl, HB, HN⟩ := hrel
    by_cases hlt : j < l.length
    · obtain ⟨x, hx⟩ : ∃ x, l[j]? = some x := ⟨_, List.getElem?_eq_getElem hlt⟩
      obtain ⟨g, o, cc, rfl, _, hp, hc⟩ := (H0.out.nxt kyC_ok HB.out).at kyC_ok hx
      have hp0 := hp
      have hp9 : _ = _ := hp
      subst hp9
      have b0 : wr.cell? ⟨g, o + j * 2, none⟩ = some (st x.nm) := hc 0 _ rfl
      have b1 : wr.cell? ⟨g, o + j * 2 + 1, none⟩ = some (.bool x.down) := hc 1 _ rfl
      have HS := Lib.hid (all_take_s p l j hlt)
      have hxe : l[j] = x := by rw [List.getElem?_eq_getElem hlt] at hx; exact Option.some.inj hx
      rw [hxe] at HS
      have hb1 := ba wr (.cells #[st x.nm, .bool x.down] 54)
      have HP1 := Lib.hid (HPp.out x _ (wr.alloc (.cells #[st x.nm, .bool x.down] 54)) (kyC_ok.ab hb1 hp0) (HG.out x (List.mem_of_getElem? hx)) ((HT.out.kept HB.out).kept hb1))
      have HB1 := Lib.hid (bt HB.out hb1)
      obtain ⟨t, ht⟩ : ∃ t, p x = t := ⟨_, rfl⟩
      rw [ht] at HP1 HS
      have HMx := Lib.hid (show x ∈ l from List.mem_of_getElem? hx)
      have HTt := Lib.hid ht
      clear hp0 hc hx hxe hb1 ht
      cases t
      · have HXe := Lib.hid (show b = false by
          rw [← HX2.out, List.all_eq_false]
          exact ⟨x, HMx.out, by rw [HTt.out]; simp⟩)
        go_wp2_with fail
        refine HP1.out.mono ?_
        rintro e w1 ⟨rfl, hb2⟩
        have HB2 := Lib.hid (bt HB1.out hb2)
        clear hb2
        go_wp2_with fail
        exact bodyPost_ret (v := .bool false) (by simp [results, Tryz.results58, go_sem]) rfl ⟨by rw [HXe.out], HB2.out⟩
      · have HE := Lib.hid (show (l.take (j + 1)).all p = true by rw [HS.out, HN.out]; rfl)
        go_wp2_with fail
        refine HP1.out.mono ?_
        rintro e w1 ⟨rfl, hb2⟩
        have HB2 := Lib.hid (bt HB1.out hb2)
        clear hb2
        go_wp2_with fail
        go_roundw
        case rel => exact ⟨j + 1, by omega, by go_num, HB2, HE⟩
        case measure => simp [intOf]; omega
    · have HXe := Lib.hid (show b = true by rw [← HX2.out, ← HN.out, List.take_of_length_le (by omega)])
      go_wp2_with fail
      exact bodyPost_ret (v := .bool true) (by simp [results, Tryz.results58, go_sem]) rfl ⟨by rw [HXe.out], HB.out⟩
set_option maxRecDepth 100000 in
set_option maxHeartbeats 4000000 in
theorem lsPa_any {G : Pa.Sel → Prop} {p : Pa.Sel → Bool} (HP : OkB slC 57 G p) (least most : Nat) (hm : most ≤ 1000) (_hls : least ≤ 1000) (l : List Pa.Sel) (A : Option Addr) (c : Nat) (w : World) (h : Ls slC (Ab w) w l A) (hG : ∀ x ∈ l, G x) (hT : Tabs w) (hl : l.length ≤ 1000000) {b : Bool} (hb : lsB least most p l = b) :
    Calls Tryz.prog 56 #[.slice A l.length c, .int .i64 least, .int .i64 most, .func (.func 57) #[] #[]] w fun e w' => e = .returned (.bool b) ∧ Below w.heap.size w w' := by
  have H0 := Lib.hid h
  have HG := Lib.hid hG
  have HT := Lib.hid hT
  have HX := Lib.hid hb
  have HPp := Lib.hid HP
  clear h hG hT hb HP
  by_cases h1 : l.length < least
  · have h1I : (l.length : Int) < (least : Int) := by omega
    have HXe := Lib.hid (show b = false by rw [← HX.out, lsB, decide_eq_false (by omega)]; rfl)
    go_enter Tryz.func56, Tryz.ntmps56
    go_wp2_with fail
    exact bodyPost_ret (v := .bool false) (by simp [results, Tryz.results56, go_sem]) rfl ⟨by rw [HXe.out], Below.refl _ _⟩
  by_cases h2 : most < l.length
  · have h1I : ¬ ((l.length : Int) < (least : Int)) := by omega
    have h2I : (most : Int) < (l.length : Int) := by omega
    have HXe := Lib.hid (show b = false by rw [← HX.out, lsB, decide_eq_false (p := l.length ≤ most) (by omega), Bool.and_false]; rfl)
    go_enter Tryz.func56, Tryz.ntmps56
    go_wp2_with fail
    exact bodyPost_ret (v := .bool false) (by simp [results, Tryz.results56, go_sem]) rfl ⟨by rw [HXe.out], Below.refl _ _⟩
  have h1I : ¬ ((l.length : Int) < (least : Int)) := by omega
  have h2I : ¬ ((most : Int) < (l.length : Int)) := by omega
  have HX2 := Lib.hid (show l.all p = b by rw [← HX.out, lsB, decide_eq_true (p := least ≤ l.length) (by omega), decide_eq_true (p := l.length ≤ most) (by omega)]; rfl)
  go_enter Tryz.func56, Tryz.ntmps56
  go_wp2_with fail
  go_loopw [23] (fun i wr => ∃ j : Nat, j ≤ l.length ∧ i = .int .i64 j ∧ Hid (Below w.heap.size w wr) ∧ Hid ((l.take j).all p = true)) (fun i _ => l.length - (intOf i).toNat)
  case atStart => exact ⟨0, Nat.zero_le _, rfl, Lib.hid (Below.refl _ _), Lib.hid (by simp)⟩
  case round =>
    obtain ⟨j, hj, rfl, HB, HN⟩ := hrel
    by_cases hlt : j < l.length
    · obtain ⟨x, hx⟩ : ∃ x, l[j]? = some x := ⟨_, List.getElem?_eq_getElem hlt⟩
      obtain ⟨g, o, cc, rfl, _, hp, hc⟩ := (H0.out.nxt slC_ok HB.out).at slC_ok hx
      have hp0 := hp
      obtain ⟨iA, fA, gA, ic, fc, gc, hd, A9, n, cp, rfl, _⟩ := slC_ex hp
      have b0 : wr.cell? ⟨g, o + j * 12, none⟩ = some (.bool x.dist) := hc 0 _ rfl
      have b1 : wr.cell? ⟨g, o + j * 12 + 1, none⟩ = some (.slice iA x.its.length ic) := hc 1 _ rfl
      have b2 : wr.cell? ⟨g, o + j * 12 + 2, none⟩ = some (.slice fA x.frs.length fc) := hc 2 _ rfl
      have b3 : wr.cell? ⟨g, o + j * 12 + 3, none⟩ = some (.int .i64 hd.k) := hc 3 _ rfl
      have b4 : wr.cell? ⟨g, o + j * 12 + 4, none⟩ = some (.int .i64 hd.n) := hc 4 _ rfl
      have b5 : wr.cell? ⟨g, o + j * 12 + 5, none⟩ = some (.int .i64 hd.vk) := hc 5 _ rfl
      have b6 : wr.cell? ⟨g, o + j * 12 + 6, none⟩ = some (.int .i64 hd.vn) := hc 6 _ rfl
      have b7 : wr.cell? ⟨g, o + j * 12 + 7, none⟩ = some (.string hd.vs) := hc 7 _ rfl
      have b8 : wr.cell? ⟨g, o + j * 12 + 8, none⟩ = some (.string hd.tab) := hc 8 _ rfl
      have b9 : wr.cell? ⟨g, o + j * 12 + 9, none⟩ = some (.string hd.col) := hc 9 _ rfl
      have b10 : wr.cell? ⟨g, o + j * 12 + 10, none⟩ = some (.slice A9 n cp) := hc 10 _ rfl
      have b11 : wr.cell? ⟨g, o + j * 12 + 11, none⟩ = some (.slice gA x.grp.length gc) := hc 11 _ rfl
      have HS := Lib.hid (all_take_s p l j hlt)
      have hxe : l[j] = x := by rw [List.getElem?_eq_getElem hlt] at hx; exact Option.some.inj hx
      rw [hxe] at HS
      have hb1 := ba wr (.cells #[.bool x.dist, .slice iA x.its.length ic, .slice fA x.frs.length fc, .int .i64 hd.k, .int .i64 hd.n, .int .i64 hd.vk, .int .i64 hd.vn, .string hd.vs, .string hd.tab, .string hd.col, .slice A9 n cp, .slice gA x.grp.length gc] 47)
      have HP1 := Lib.hid (HPp.out x _ (wr.alloc (.cells #[.bool x.dist, .slice iA x.its.length ic, .slice fA x.frs.length fc, .int .i64 hd.k, .int .i64 hd.n, .int .i64 hd.vk, .int .i64 hd.vn, .string hd.vs, .string hd.tab, .string hd.col, .slice A9 n cp, .slice gA x.grp.length gc] 47)) (slC_ok.ab hb1 hp0) (HG.out x (List.mem_of_getElem? hx)) ((HT.out.kept HB.out).kept hb1))
      have HB1 := Lib.hid (bt HB.out hb1)
      obtain ⟨t, ht⟩ : ∃ t, p x = t := ⟨_, rfl⟩
      rw [ht] at HP1 HS
      have HMx := Lib.hid (show x ∈ l from List.mem_of_getElem? hx)
      have HTt := Lib.hid ht
      clear hp0 hc hx hxe hb1 ht
      cases t
      · have HXe := Lib.hid (show b = false by
          rw [← HX2.out, List.all_eq_false]
          exact ⟨x, HMx.out, by rw [HTt.out]; simp⟩)
        go_wp2_with fail
        refine HP1.out.mono ?_
        rintro e w1 ⟨rfl, hb2⟩
        have HB2 := Lib.hid (bt HB1.out hb2)
        clear hb2
        go_wp2_with fail
        exact bodyPost_ret (v := .bool false) (by simp [results, Tryz.results56, go_sem]) rfl ⟨by rw [HXe.out], HB2.out⟩
      · have HE := Lib.hid (show (l.take (j + 1)).all p = true by rw [HS.out, HN.out]; rfl)
        go_wp2_with fail
        refine HP1.out.mono ?_
        rintro e w1 ⟨rfl, hb2⟩
        have HB2 := Lib.hid (bt HB1.out hb2)
        clear hb2
        go_wp2_with fail
        go_roundw
        case rel => exact ⟨j + 1, by omega, by go_num, HB2, HE⟩
        case measure => simp [intOf]; omega
    · have HXe := Lib.hid (show b = true by rw [← HX2.out, ← HN.out, List.take_of_length_le (by omega)])
      go_wp2_with fail
      exact bodyPost_ret (v := .bool true) (by simp [results, Tryz.results56, go_sem]) rfl ⟨by rw [HXe.out], HB.out⟩
end Go.Proofs.YtfjimoccliejdaaGreatDoor
end
