/-
  Rules of expressions: a row of operators, put together from the left.
Rules of expressions: a row of operators whose parts the rule 'and' reads.
Rules of expressions: a row of operators whose parts the rule 'not' reads.
Rules of expressions: a row of operators whose parts the rule 'sum' reads.
Rules of expressions: a row of operators whose parts the rule 'prod' reads.
-/
import Derived.Test.YtfjimoccliejdaaGreatDoorY8
import Derived.OrdersHeld
import Derived.Deep.RegionHeld3
section
namespace Go.Proofs.YtfjimoccliejdaaGreatDoor
open Go.RowKit Go.Shelf

/-- A rule's contract, for so many tokens at most. -/
def Ok (fn : FuncId) (f : Pa.Ps → Ex × Pa.Ps) (m N : Nat) : Prop := ∀ (s : Pa.Ps) (w : World), RS m w s → s.ts.length ≤ N → Calls Tryz.prog fn #[.pointer (some ⟨m, 0, none⟩)] w (RuE exC m w (f s).1 (f s).2)
/-- How many tokens the reader at m has left. -/
def lenR (m : Nat) (w : World) : Nat := match w.heap[m]? with | some (Obj.cells cs _ _) => (match cs[0]? with | some (Value.slice _ n _) => n | _ => 0) | _ => 0
theorem RS.len {m : Nat} {w : World} {s : Pa.Ps} (h : RS m w s) : lenR m w = s.ts.length := by
  obtain ⟨A, c, h1, _⟩ := h.rd
  simp only [lenR, h1]
  rfl
/-- An expression's cells, written out. -/
theorem exC_form {B : Nat → Prop} {w : World} {e : Ex} {c : List Value} (h : exC B w e c) : ∃ A cap, c = xcell (e.hd, A, e.kids.length, cap) ∧ e.kids.length ≤ cap ∧ XsB B w e.kids A := by
  obtain ⟨⟨h1, A, n, cap⟩, rfl, e1, e2, e3, e4⟩ := h
  simp only at e1 e2 e3 e4
  subst e1 e2
  exact ⟨A, cap, rfl, e3, e4⟩
/-- One part, or two, in a row that was just made: an operator of them. -/
theorem exC_one {B B' : Nat → Prop} {w : World} {x : Ex} {c : List Value} (hd : Hd) (hx : exC B w x c) (hB : ∀ k, B k → k < w.heap.size ∧ B' k) (hn : B' w.heap.size) (T : TypeId) :
    exC B' (w.alloc (.cells c.toArray T)) (.mk hd [x]) (xcell (hd, some ⟨w.heap.size, 0, none⟩, 1, 1)) := by
  refine ⟨_, rfl, rfl, rfl, Nat.le_refl _, ?_⟩
  have hk := ba w (.cells c.toArray T)
  obtain ⟨q, rfl, hq⟩ := hx
  have hq' : XR B' (w.alloc (.cells (xcell q).toArray T)) x q := hq.go (fun k hk' => hk.block k (hB k hk').1) (fun k hk' => (hB k hk').2)
  refine XRs.xsB (B := B') hn (.cons hq' .nil) (fun j u hj => ?_)
  have e2 : (xcells [q]) = xcell q := by simp [xcells]
  rw [e2] at hj
  simp only [World.cell?, (MapKept.heap_alloc w (.cells (xcell q).toArray T)).1, Nat.zero_add]
  simpa using hj
theorem exC_two {B B' : Nat → Prop} {w : World} {x y : Ex} {c d : List Value} (hd : Hd) (hx : exC B w x c) (hy : exC B w y d) (hB : ∀ k, B k → k < w.heap.size ∧ B' k) (hn : B' w.heap.size) (T : TypeId) :
    exC B' (w.alloc (.cells (c ++ d).toArray T)) (.mk hd [x, y]) (xcell (hd, some ⟨w.heap.size, 0, none⟩, 2, 2)) := by
  refine ⟨_, rfl, rfl, rfl, Nat.le_refl _, ?_⟩
  have hk := ba w (.cells (c ++ d).toArray T)
  obtain ⟨q, rfl, hq⟩ := hx
  obtain ⟨p, rfl, hp⟩ := hy
  have hq' : XR B' (w.alloc (.cells (xcell q ++ xcell p).toArray T)) x q := hq.go (fun k hk' => hk.block k (hB k hk').1) (fun k hk' => (hB k hk').2)
  have hp' : XR B' (w.alloc (.cells (xcell q ++ xcell p).toArray T)) y p := hp.go (fun k hk' => hk.block k (hB k hk').1) (fun k hk' => (hB k hk').2)
  refine XRs.xsB (B := B') hn (.cons hq' (.cons hp' .nil)) (fun j u hj => ?_)
  have e2 : (xcells [q, p]) = xcell q ++ xcell p := by simp [xcells]
  rw [e2] at hj
  simp only [World.cell?, (MapKept.heap_alloc w (.cells (xcell q ++ xcell p).toArray T)).1, Nat.zero_add]
  simpa using hj
/-- Blocks of one's own, but one. -/
abbrev Bv (U V n : Nat) (k : Nat) : Prop := U < k ∧ k < n ∧ k ≠ V
theorem operP_lt : ∀ (ops : List Nat) (s : Pa.Ps), (∀ op ∈ ops, op < 17) → (Pa.operP ops s).1 ≤ 17
  | [], _, _ => by rw [Pa.operP]; exact Nat.zero_le _
  | op :: r, s, h => by
    rw [Pa.operP]
    split
    · split
      · unfold Pa.nullP; simp only; split <;> omega
      · have := h op (List.mem_cons_self ..); simp only; omega
    · exact operP_lt r s fun o ho => h o (List.mem_cons_of_mem _ ho)
theorem rowP_one {part : Pa.Ps → Ex × Pa.Ps} {ops : List Nat} {n : Nat} {e : Ex} {s : Pa.Ps} (h : (Pa.operP ops s).1 ≠ 0) (h1 : Pa.isOne (Pa.operP ops s).1 = true) : Pa.rowP part ops (n + 1) e s = Pa.rowP part ops n (Pa.mkOp (Pa.operP ops s).1 [e]) (Pa.operP ops s).2 := by
  rw [Pa.rowP, if_neg h, if_pos h1]
theorem rowP_two {part : Pa.Ps → Ex × Pa.Ps} {ops : List Nat} {n : Nat} {e : Ex} {s : Pa.Ps} (h : (Pa.operP ops s).1 ≠ 0) (h1 : Pa.isOne (Pa.operP ops s).1 = false) : Pa.rowP part ops (n + 1) e s = Pa.rowP part ops n (Pa.mkOp (Pa.operP ops s).1 [e, (part (Pa.operP ops s).2).1]) (part (Pa.operP ops s).2).2 := by
  rw [Pa.rowP, if_neg h, if_neg (by simp [h1])]
/-- A row of operators that is under way. -/
structure RowS (part : Pa.Ps → Ex × Pa.Ps) (ops : List Nat) (m N U V : Nat) (w : World) (X : Ex × Pa.Ps) (x : Ex) (s1 : Pa.Ps) (nn : Nat) (A : Option Addr) (cap : Nat) (W : World) : Prop where
  len : s1.ts.length ≤ nn
  most : s1.ts.length ≤ N
  rs : RS m W s1
  but : ButM m w W
  bu : BxU W U cs8 37
  bv : BxU W V #[.int .i64 x.hd.k, .int .i64 x.hd.n, .int .i64 x.hd.vk, .int .i64 x.hd.vn, .string x.hd.vs, .string x.hd.tab, .string x.hd.col, .slice A x.kids.length cap] 37
  ex : exC (Bv U V W.heap.size) W x (xcell (x.hd, A, x.kids.length, cap))
  eq : Pa.rowP part ops nn x s1 = X
theorem isOne_ar {op : Nat} (h : op ≤ 17) : arI (op : Int) = if Pa.isOne op then 1 else if op = 0 then 0 else 2 := by
  have : ∀ k : Fin 18, arI ((k : Nat) : Int) = if Pa.isOne (k : Nat) then 1 else if (k : Nat) = 0 then 0 else 2 := by decide
  exact this ⟨op, by omega⟩
/-- The same, with the answer as a value. -/
theorem RuE.ev {m : Nat} {w : World} {x : Ex} {s' : Pa.Ps} {e : Ending} {w' : World} (h : RuE exC m w x s' e w') : ∃ A cap, e = .returned (XV x.hd A x.kids.length cap) ∧ exC (Bt w.heap.size w'.heap.size) w' x (xcell (x.hd, A, x.kids.length, cap)) ∧ RS m w' s' ∧ ButM m w w' := by
  obtain ⟨c, rfl, hC, hR, hM⟩ := h
  obtain ⟨A, cap, rfl, _, _⟩ := exC_form hC
  exact ⟨A, cap, rfl, hC, hR, hM⟩
theorem box8_set {w : World} {V : Nat} {T : TypeId} {a0 a1 a2 a3 a4 a5 a6 a7 : Value} (h : BxU w V #[a0, a1, a2, a3, a4, a5, a6, a7] T) (b0 b1 b2 b3 b4 b5 b6 b7 : Value) :
    BxU ((((((((w.setCell ⟨V, 0, none⟩ b0).setCell ⟨V, 1, none⟩ b1).setCell ⟨V, 2, none⟩ b2).setCell ⟨V, 3, none⟩ b3).setCell ⟨V, 4, none⟩ b4).setCell ⟨V, 5, none⟩ b5).setCell ⟨V, 6, none⟩ b6).setCell ⟨V, 7, none⟩ b7) V #[b0, b1, b2, b3, b4, b5, b6, b7] T := by
  unfold BxU at h ⊢
  simp [World.setCell, Array.getElem?_modify, h]
/-- One operator more. -/
theorem RowS.step {part : Pa.Ps → Ex × Pa.Ps} {ops : List Nat} {m N U V : Nat} {w : World} {X : Ex × Pa.Ps} {h : Hd} {l : List Ex} {s1 : Pa.Ps} {nn : Nat} {A : Option Addr} {n cap : Nat} {W W' : World} (hn : n = l.length)
    (h1 : s1.ts.length ≤ nn) (h2 : s1.ts.length ≤ N) (hm : m < U) (hUV : U < V) (hwU : w.heap.size ≤ U) (hR : RS m W s1) (hM : ButM m w W) (hU : BxU W U cs8 37) (hE : exC (Bv U V W.heap.size) W (.mk h l) (xcell (h, A, n, cap))) (hX : Pa.rowP part ops nn (.mk h l) s1 = X)
    (hO : OnU V W W') (hV : BxU W' V #[.int .i64 h.k, .int .i64 h.n, .int .i64 h.vk, .int .i64 h.vn, .string h.vs, .string h.tab, .string h.col, .slice A n cap] 37) : RowS part ops m N U V w X (.mk h l) s1 nn A cap W' := by
  subst hn
  refine ⟨h1, h2, hO.rs (by omega) hR, hO.but (by omega) hM, ?_, hV, exC_ok.go (fun k hk => hO.block k hk.2.2) (fun k hk => ⟨hk.1, by rw [hO.size]; exact hk.2.1, hk.2.2⟩) hE, hX⟩
  unfold BxU at hU ⊢
  exact (hO.block U (Nat.ne_of_lt hUV)).trans hU
/-- A box's eight cells, written out. -/
def V8 (W : World) (V : Nat) (hd : Hd) (A : Option Addr) (n c : Nat) : Prop :=
  W.cell? ⟨V, 0, none⟩ = some (.int .i64 hd.k) ∧ W.cell? ⟨V, 1, none⟩ = some (.int .i64 hd.n) ∧ W.cell? ⟨V, 2, none⟩ = some (.int .i64 hd.vk) ∧ W.cell? ⟨V, 3, none⟩ = some (.int .i64 hd.vn) ∧
  W.cell? ⟨V, 4, none⟩ = some (.string hd.vs) ∧ W.cell? ⟨V, 5, none⟩ = some (.string hd.tab) ∧ W.cell? ⟨V, 6, none⟩ = some (.string hd.col) ∧ W.cell? ⟨V, 7, none⟩ = some (.slice A n c) ∧
  W.frozen? ⟨V, 0, none⟩ = false ∧ W.frozen? ⟨V, 1, none⟩ = false ∧ W.frozen? ⟨V, 2, none⟩ = false ∧ W.frozen? ⟨V, 3, none⟩ = false ∧ W.frozen? ⟨V, 4, none⟩ = false ∧ W.frozen? ⟨V, 5, none⟩ = false ∧ W.frozen? ⟨V, 6, none⟩ = false ∧ W.frozen? ⟨V, 7, none⟩ = false
theorem v8_of {W : World} {V : Nat} {hd : Hd} {A : Option Addr} {n c : Nat} (h : BxU W V #[.int .i64 hd.k, .int .i64 hd.n, .int .i64 hd.vk, .int .i64 hd.vn, .string hd.vs, .string hd.tab, .string hd.col, .slice A n c] 37) : V8 W V hd A n c :=
  ⟨h.cell 0, h.cell 1, h.cell 2, h.cell 3, h.cell 4, h.cell 5, h.cell 6, h.cell 7, h.frozen 0, h.frozen 1, h.frozen 2, h.frozen 3, h.frozen 4, h.frozen 5, h.frozen 6, h.frozen 7⟩
/-- The first part in its box, the second one just read. -/
structure PartS (m N U V : Nat) (w : World) (x : Ex) (hd : Hd) (A : Option Addr) (n c : Nat) (y : Ex) (s4 : Pa.Ps) (A4 : Option Addr) (cap4 : Nat) (W : World) : Prop where
  rs : RS m W s4
  but : ButM m w W
  bu : BxU W U cs8 37
  bv : BxU W V #[.int .i64 hd.k, .int .i64 hd.n, .int .i64 hd.vk, .int .i64 hd.vn, .string hd.vs, .string hd.tab, .string hd.col, .slice A n c] 37
  ex : exC (Bv U V W.heap.size) W x (xcell (hd, A, n, c))
  ey : exC (Bv U V W.heap.size) W y (xcell (y.hd, A4, y.kids.length, cap4))
/-- An operator just made. -/
structure MadeS (m U V : Nat) (w : World) (z : Ex) (hz : Hd) (s4 : Pa.Ps) (A4 : Option Addr) (n4 c4 : Nat) (hd : Hd) (A : Option Addr) (n c : Nat) (W : World) : Prop where
  rs : RS m W s4
  but : ButM m w W
  bu : BxU W U cs8 37
  bv : BxU W V #[.int .i64 hd.k, .int .i64 hd.n, .int .i64 hd.vk, .int .i64 hd.vn, .string hd.vs, .string hd.tab, .string hd.col, .slice A n c] 37
  ez : exC (Bv U V W.heap.size) W z (xcell (hz, A4, n4, c4))
theorem made_two {m N U V : Nat} {w : World} {x y : Ex} {hd : Hd} {A : Option Addr} {n c o : Nat} {s4 : Pa.Ps} {A4 : Option Addr} {cap4 : Nat} {w4 W w5 : World} (h : PartS m N U V w x hd A n c y s4 A4 cap4 w4)
    (hW : W.heap = (w4.alloc (.cells (xcell (hd, A, n, c) ++ xcell (y.hd, A4, y.kids.length, cap4)).toArray 37)).heap) (hb : Below w4.heap.size w4 W) (hb5 : Below W.heap.size W w5) :
    Hid (MadeS m U V w (Pa.mkOp o [x, y]) (hdO (o : Int)) s4 (some ⟨w4.heap.size, 0, none⟩) 2 2 hd A n c w5) ∧ V8 w5 V hd A n c := by
  have hbv := (h.bv.next hb).next hb5
  refine ⟨Lib.hid ⟨(h.rs.next hb).next hb5, (h.but.trans (ButM.of hb)).trans (ButM.of hb5), (h.bu.next hb).next hb5, hbv, ?_⟩, v8_of hbv⟩
  have h2 := exC_two (B' := Bv U V (w4.heap.size + 1)) (hdO (o : Int)) h.ex h.ey (fun k hk => ⟨hk.2.1, hk.1, Nat.lt_succ_of_lt hk.2.1, hk.2.2⟩) ⟨h.bu.lt, Nat.lt_succ_self _, Nat.ne_of_gt h.bv.lt⟩ 37
  have hsz : W.heap.size = w4.heap.size + 1 := by rw [hW, World.size_alloc]
  refine exC_ok.go (fun k hk => (hb5.block k (by rw [hsz]; exact hk.2.1)).trans (by rw [hW])) (fun k hk => ⟨hk.1, by have := hk.2.1; have := hb5.size; omega, hk.2.2⟩) h2
end Go.Proofs.YtfjimoccliejdaaGreatDoor
end
section
namespace Go.Proofs.YtfjimoccliejdaaGreatDoor
open Go.RowKit Go.Shelf

set_option maxRecDepth 100000 in
set_option maxHeartbeats 4000000 in
theorem row_and (part : Pa.Ps → Ex × Pa.Ps) (hle : ∀ s, Pa.Fin s.ts → Pa.Le s (part s).2) (m N : Nat) (HP : Ok 61 part m N) (ops : List Nat) (hops : ∀ op ∈ ops, op < 17) (hnz : ∀ op ∈ ops, op ≠ 0) (hl : ops.length ≤ 100) (s : Pa.Ps) (g c : Nat) (w : World) (h : RS m w s) (hN : s.ts.length ≤ N) (hgm : m < g) (hO : ∀ (j op : Nat), ops[j]? = some op → w.cell? ⟨g, j, none⟩ = some (.int .i64 op)) :
    Calls Tryz.prog 60 #[.pointer (some ⟨m, 0, none⟩), .func (.func 61) #[.pointer (some ⟨m, 0, none⟩)] #[], .slice (some ⟨g, 0, none⟩) ops.length c] w (RuE exC m w (Pa.rowP part ops (part s).2.ts.length (part s).1 (part s).2).1 (Pa.rowP part ops (part s).2.ts.length (part s).1 (part s).2).2) := by
  have HPp := Lib.hid HP
  have HO := Lib.hid hO
  have HOps := Lib.hid (And.intro hops hnz)
  have Hle := Lib.hid hle
  clear HP hO hops hnz hle
  have HB := Lib.hid (ba w (.cells #[.int .i64 0, .int .i64 0, .int .i64 0, .int .i64 0, .string ⟨#[]⟩, .string ⟨#[]⟩, .string ⟨#[]⟩, .slice none 0 0] 37))
  have HU := Lib.hid (show BxU _ _ #[.int .i64 0, .int .i64 0, .int .i64 0, .int .i64 0, .string ⟨#[]⟩, .string ⟨#[]⟩, .string ⟨#[]⟩, .slice none 0 0] 37 from (MapKept.heap_alloc w (.cells #[.int .i64 0, .int .i64 0, .int .i64 0, .int .i64 0, .string ⟨#[]⟩, .string ⟨#[]⟩, .string ⟨#[]⟩, .slice none 0 0] 37)).1)
  have H1 := Lib.hid (h.next HB.out)
  have hmU := h.lt
  have HFin := Lib.hid h.fin
  obtain ⟨U, hU⟩ : ∃ U, w.heap.size = U := ⟨_, rfl⟩
  have HUl := Lib.hid hU
  rw [hU] at HU hmU
  have HmU := Lib.hid hmU
  obtain ⟨X, hX⟩ : ∃ X, Pa.rowP part ops (part s).2.ts.length (part s).1 (part s).2 = X := ⟨_, rfl⟩
  rw [hX]
  have HX := Lib.hid hX
  clear h hX hmU
  go_enter Tryz.func60, Tryz.ntmps60
  go_wp2_with fail
  generalize w.alloc (.cells #[.int .i64 0, .int .i64 0, .int .i64 0, .int .i64 0, .string ⟨#[]⟩, .string ⟨#[]⟩, .string ⟨#[]⟩, .slice none 0 0] 37) = W1 at HB HU H1 ⊢
  clear hU
  have HM1 := Lib.hid (show ButM m w W1 from ButM.of HB.out)
  have HT1 := Lib.hid (HPp.out s W1 H1.out hN)
  obtain ⟨⟨x1, s1⟩, hs1⟩ : ∃ q, part s = q := ⟨_, rfl⟩
  rw [hs1] at HT1
  have HK1 := Lib.hid hs1
  clear hs1
  simp only at HT1
  go_wp2_with fail
  refine HT1.out.mono ?_
  intro e v1 hE
  obtain ⟨A1, cap1, rfl, hC, hR, hM⟩ := RuE.ev hE
  clear hE
  have hs1 : s1.ts.length ≤ N := by have := (Hle.out s HFin.out).len; rw [HK1.out] at this; simp only at this; omega
  have HX1 := Lib.hid (show Pa.rowP part ops s1.ts.length x1 s1 = X by rw [← HX.out, HK1.out])
  obtain ⟨hd1, l1⟩ := x1
  simp only [Ex.hd, Ex.kids] at hC ⊢
  have hbv := ba v1 (xbox hd1 A1 l1.length cap1)
  have hVn := (MapKept.heap_alloc v1 (xbox hd1 A1 l1.length cap1)).1
  obtain ⟨V, hV⟩ : ∃ V, v1.heap.size = V := ⟨_, rfl⟩
  rw [hV] at hVn
  have hUW := HU.out.lt
  have hUV : U < V := by have := hM.size; omega
  have HS1 := Lib.hid (show RowS part ops m N U V w X (.mk hd1 l1) s1 s1.ts.length A1 cap1 (v1.alloc (xbox hd1 A1 l1.length cap1)) from ⟨Nat.le_refl _, hs1, hR.next hbv, (HM1.out.trans hM).trans (ButM.of hbv), (HU.out.but HmU.out hM).next hbv, hVn, exC_ok.go (fun k hk => hbv.block k hk.2) (fun k hk => ⟨by have := hk.1; omega, by have := hk.2; have := hbv.size; omega, by have := hk.2; omega⟩) hC, HX1.out⟩)
  have HV := Lib.hid hV
  have HUV := Lib.hid hUV
  clear hR hM hC hN hbv hVn hUW hs1 hUV
  go_wp2_with fail
  clear hV
  go_loopw [8] (fun _ W => ∃ (x : Ex) (s1 : Pa.Ps) (nn : Nat) (A : Option Addr) (cap : Nat), Hid (RowS part ops m N U V w X x s1 nn A cap W)) (fun _ W => lenR m W)
  case atStart => exact ⟨_, _, _, _, _, HS1⟩
  case round =>
    obtain ⟨x, s2, nn, A, cap, HS⟩ := hrel
    have hOw : ∀ (j op : Nat), ops[j]? = some op → wr.cell? ⟨g, j, none⟩ = some (.int .i64 op) := fun j op hj => HS.out.but.cell (Nat.ne_of_gt hgm) (HO.out j op hj)
    have HT := Lib.hid (oper_any m s2 ops g c wr HS.out.rs HOps.out.1 hOw hgm hl)
    obtain ⟨hle2, hnz2, hz2⟩ := Pa.operP_le ops HS.out.rs.fin HOps.out.2
    have hlt := operP_lt ops s2 HOps.out.1
    obtain ⟨o, ho⟩ : ∃ o, (Pa.operP ops s2).1 = o := ⟨_, rfl⟩
    obtain ⟨s3, hs3⟩ : ∃ s3, (Pa.operP ops s2).2 = s3 := ⟨_, rfl⟩
    rw [ho, hs3] at HT hnz2 hz2
    rw [ho] at hlt
    rw [hs3] at hle2
    have HK := Lib.hid (show Pa.operP ops s2 = (o, s3) by rw [← ho, ← hs3])
    have HLE := Lib.hid hle2
    have HNZ := Lib.hid hnz2
    have HZ := Lib.hid hz2
    clear hOw hle2 hnz2 hz2 ho hs3
    go_wp2_with fail
    refine HT.out.mono ?_
    rintro e w1 ⟨rfl, hR, hM⟩
    have HR1 := Lib.hid hR
    have HB1 := Lib.hid (HS.out.but.trans hM)
    have HU1 := Lib.hid (HS.out.bu.but HmU.out hM)
    have hmV : m < V := Nat.lt_trans HmU.out HUV.out
    have HV1 := Lib.hid (HS.out.bv.but hmV hM)
    have HE1 := Lib.hid (show exC (Bv U V w1.heap.size) w1 x (xcell (x.hd, A, x.kids.length, cap)) from exC_ok.go (fun k hk => hM.block k hk.2.1 (by have := hk.1; have := HmU.out; omega)) (fun k hk => ⟨hk.1, Nat.lt_of_lt_of_le hk.2.1 hM.size, hk.2.2⟩) HS.out.ex)
    have HmV := Lib.hid hmV
    have hUltV := HUV.out
    have hUneV : U ≠ V := Nat.ne_of_lt hUltV
    have hVneU : V ≠ U := Nat.ne_of_gt hUltV
    clear hR hM hmV hUltV
    obtain ⟨hd, l⟩ := x
    simp only [Ex.hd, Ex.kids] at HV1 HE1
    have d0 : (w1).cell? ⟨V, 0, none⟩ = some (.int .i64 hd.k) := (HV1.out).cell 0
    have d1 : (w1).cell? ⟨V, 1, none⟩ = some (.int .i64 hd.n) := (HV1.out).cell 1
    have d2 : (w1).cell? ⟨V, 2, none⟩ = some (.int .i64 hd.vk) := (HV1.out).cell 2
    have d3 : (w1).cell? ⟨V, 3, none⟩ = some (.int .i64 hd.vn) := (HV1.out).cell 3
    have d4 : (w1).cell? ⟨V, 4, none⟩ = some (.string hd.vs) := (HV1.out).cell 4
    have d5 : (w1).cell? ⟨V, 5, none⟩ = some (.string hd.tab) := (HV1.out).cell 5
    have d6 : (w1).cell? ⟨V, 6, none⟩ = some (.string hd.col) := (HV1.out).cell 6
    have d7 : (w1).cell? ⟨V, 7, none⟩ = some (.slice A l.length cap) := (HV1.out).cell 7
    have fd0 := (HV1.out).frozen 0
    have fd1 := (HV1.out).frozen 1
    have fd2 := (HV1.out).frozen 2
    have fd3 := (HV1.out).frozen 3
    have fd4 := (HV1.out).frozen 4
    have fd5 := (HV1.out).frozen 5
    have fd6 := (HV1.out).frozen 6
    have fd7 := (HV1.out).frozen 7
    by_cases hz : o = 0
    · subst hz
      obtain rfl := HZ.out rfl
      have HXe := Lib.hid (show X = (.mk hd l, s3) by rw [← HS.out.eq, Pa.rowP_stop (by rw [HK.out])])
      have c0 : (w1).cell? ⟨U, 0, none⟩ = some (.int .i64 0) := (HU1.out).cell 0
      have c1 : (w1).cell? ⟨U, 1, none⟩ = some (.int .i64 0) := (HU1.out).cell 1
      have c2 : (w1).cell? ⟨U, 2, none⟩ = some (.int .i64 0) := (HU1.out).cell 2
      have c3 : (w1).cell? ⟨U, 3, none⟩ = some (.int .i64 0) := (HU1.out).cell 3
      have c4 : (w1).cell? ⟨U, 4, none⟩ = some (.string ⟨#[]⟩) := (HU1.out).cell 4
      have c5 : (w1).cell? ⟨U, 5, none⟩ = some (.string ⟨#[]⟩) := (HU1.out).cell 5
      have c6 : (w1).cell? ⟨U, 6, none⟩ = some (.string ⟨#[]⟩) := (HU1.out).cell 6
      have c7 : (w1).cell? ⟨U, 7, none⟩ = some (.slice none 0 0) := (HU1.out).cell 7
      have fc0 := (HU1.out).frozen 0
      have fc1 := (HU1.out).frozen 1
      have fc2 := (HU1.out).frozen 2
      have fc3 := (HU1.out).frozen 3
      have fc4 := (HU1.out).frozen 4
      have fc5 := (HU1.out).frozen 5
      have fc6 := (HU1.out).frozen 6
      have fc7 := (HU1.out).frozen 7
      go_wp2_with fail
      exact bodyPost_ret (v := XV hd A l.length cap) (by simp [results, Tryz.results60, go_sem, c0, c1, c2, c3, c4, c5, c6, c7]) rfl (by rw [HXe.out]; exact RuE.fin (c := xcell (hd, A, l.length, cap)) exC_ok HUl.out HmU.out HB1.out HR1.out (exC_ok.go (fun _ _ => rfl) (fun k hk => ⟨hk.1, hk.2.1⟩) HE1.out) (OnU.refl _ _).set.set.set.set.set.set.set.set)
    · have hzI : ¬ ((o : Int) = 0) := by omega
      have har := isOne_ar hlt
      obtain ⟨nn, rfl⟩ : ∃ k, nn = k + 1 := ⟨nn - 1, by have := (HNZ.out hz).2; have := HS.out.len; omega⟩
      cases hone : Pa.isOne o with
      | true =>
        rw [if_pos hone] at har
        have HX2 := Lib.hid (show Pa.rowP part ops nn (Pa.mkOp o [.mk hd l]) s3 = X by rw [← HS.out.eq, rowP_one (by rw [HK.out]; exact hz) (by rw [HK.out]; exact hone), HK.out])
        have HLs := Lib.hid (show s3.ts.length + 1 ≤ s2.ts.length from (HNZ.out hz).2)
        have HAr := Lib.hid (ev_arity (n := (o : Int)) (w := w1) har)
        clear hone har hz
        go_wp2_with fail
        refine HAr.out.mono ?_
        rintro e w2 ⟨u, rfl, hb, rfl⟩
        have HR2 := Lib.hid (HR1.out.next hb)
        have HB2 := Lib.hid (HB1.out.trans (ButM.of hb))
        have HU2 := Lib.hid (HU1.out.next hb)
        have HV2 := Lib.hid (HV1.out.next hb)
        have HE2 := Lib.hid (show exC (Bv U V w2.heap.size) w2 (.mk hd l) (xcell (hd, A, l.length, cap)) from exC_ok.go (fun k hk => hb.block k hk.2.1) (fun k hk => ⟨hk.1, Nat.lt_of_lt_of_le hk.2.1 hb.size, hk.2.2⟩) HE1.out)
        clear hb d0 fd0 d1 fd1 d2 fd2 d3 fd3 d4 fd4 d5 fd5 d6 fd6 d7 fd7
        have d0 : (w2).cell? ⟨V, 0, none⟩ = some (.int .i64 hd.k) := (HV2.out).cell 0
        have d1 : (w2).cell? ⟨V, 1, none⟩ = some (.int .i64 hd.n) := (HV2.out).cell 1
        have d2 : (w2).cell? ⟨V, 2, none⟩ = some (.int .i64 hd.vk) := (HV2.out).cell 2
        have d3 : (w2).cell? ⟨V, 3, none⟩ = some (.int .i64 hd.vn) := (HV2.out).cell 3
        have d4 : (w2).cell? ⟨V, 4, none⟩ = some (.string hd.vs) := (HV2.out).cell 4
        have d5 : (w2).cell? ⟨V, 5, none⟩ = some (.string hd.tab) := (HV2.out).cell 5
        have d6 : (w2).cell? ⟨V, 6, none⟩ = some (.string hd.col) := (HV2.out).cell 6
        have d7 : (w2).cell? ⟨V, 7, none⟩ = some (.slice A l.length cap) := (HV2.out).cell 7
        have fd0 := (HV2.out).frozen 0
        have fd1 := (HV2.out).frozen 1
        have fd2 := (HV2.out).frozen 2
        have fd3 := (HV2.out).frozen 3
        have fd4 := (HV2.out).frozen 4
        have fd5 := (HV2.out).frozen 5
        have fd6 := (HV2.out).frozen 6
        have fd7 := (HV2.out).frozen 7
        have hE3 := exC_one (B' := Bv U V (w2.heap.size + 1)) (hdO (o : Int)) HE2.out (fun k hk => ⟨hk.2.1, hk.1, Nat.lt_succ_of_lt hk.2.1, hk.2.2⟩) ⟨HU2.out.lt, Nat.lt_succ_self _, Nat.ne_of_gt HV2.out.lt⟩ 37
        have hbx := ba w2 (xbox hd A l.length cap)
        have HE3 := Lib.hid hE3
        have HBx := Lib.hid hbx
        have HR3 := Lib.hid (HR2.out.next hbx)
        have HU3 := Lib.hid (HU2.out.next hbx)
        have HV3 := Lib.hid (HV2.out.next hbx)
        go_wp2_with fail
        refine (pmade_any 3 o (some ⟨w2.heap.size, 0, none⟩) 1 1 _).mono ?_
        rintro e w3 ⟨rfl, hb⟩
        have HR4 := Lib.hid (HR3.out.next hb)
        have HB4 := Lib.hid (HB2.out.trans ((ButM.of hbx).trans (ButM.of hb)))
        have HU4 := Lib.hid (HU3.out.next hb)
        have HV4 := Lib.hid (HV3.out.next hb)
        have HE4 := Lib.hid (show exC (Bv U V w3.heap.size) w3 (Pa.mkOp o [.mk hd l]) (xcell (hdO (o : Int), some ⟨w2.heap.size, 0, none⟩, 1, 1)) from exC_ok.go (fun k hk => hb.block k (by rw [World.size_alloc]; exact hk.2.1)) (fun k hk => ⟨hk.1, by have := hk.2.1; have := hb.size; rw [World.size_alloc] at this; omega, hk.2.2⟩) hE3)
        clear hb hbx hE3 d0 fd0 d1 fd1 d2 fd2 d3 fd3 d4 fd4 d5 fd5 d6 fd6 d7 fd7
        have d0 : (w3).cell? ⟨V, 0, none⟩ = some (.int .i64 hd.k) := (HV4.out).cell 0
        have d1 : (w3).cell? ⟨V, 1, none⟩ = some (.int .i64 hd.n) := (HV4.out).cell 1
        have d2 : (w3).cell? ⟨V, 2, none⟩ = some (.int .i64 hd.vk) := (HV4.out).cell 2
        have d3 : (w3).cell? ⟨V, 3, none⟩ = some (.int .i64 hd.vn) := (HV4.out).cell 3
        have d4 : (w3).cell? ⟨V, 4, none⟩ = some (.string hd.vs) := (HV4.out).cell 4
        have d5 : (w3).cell? ⟨V, 5, none⟩ = some (.string hd.tab) := (HV4.out).cell 5
        have d6 : (w3).cell? ⟨V, 6, none⟩ = some (.string hd.col) := (HV4.out).cell 6
        have d7 : (w3).cell? ⟨V, 7, none⟩ = some (.slice A l.length cap) := (HV4.out).cell 7
        have fd0 := (HV4.out).frozen 0
        have fd1 := (HV4.out).frozen 1
        have fd2 := (HV4.out).frozen 2
        have fd3 := (HV4.out).frozen 3
        have fd4 := (HV4.out).frozen 4
        have fd5 := (HV4.out).frozen 5
        have fd6 := (HV4.out).frozen 6
        have fd7 := (HV4.out).frozen 7
        have HSn := Lib.hid (RowS.step (part := part) (ops := ops) (N := N) (nn := nn) (n := 1) rfl (by have := HLs.out; have := HS.out.len; omega) (by have := HLs.out; have := HS.out.most; omega) HmU.out HUV.out (Nat.le_of_eq HUl.out) HR4.out HB4.out HU4.out HE4.out HX2.out ((OnU.refl V w3).set.set.set.set.set.set.set.set) (box8_set HV4.out _ _ _ _ _ _ _ _))
        go_wp2_with fail
        go_roundw
        case rel => exact ⟨_, _, _, _, _, HSn⟩
        case measure => rw [HSn.out.rs.len, HS.out.rs.len]; have := HLs.out; omega
      | false =>
        rw [if_neg (by simp [hone]), if_neg hz] at har
        have HLs := Lib.hid (show s3.ts.length + 1 ≤ s2.ts.length from (HNZ.out hz).2)
        have hs3N : s3.ts.length ≤ N := by have := HLs.out; have := HS.out.most; omega
        obtain ⟨⟨y, s4⟩, hy⟩ : ∃ q, part s3 = q := ⟨_, rfl⟩
        have HY := Lib.hid hy
        have HX2 := Lib.hid (show Pa.rowP part ops nn (Pa.mkOp o [.mk hd l, y]) s4 = X by rw [← HS.out.eq, rowP_two (by rw [HK.out]; exact hz) (by rw [HK.out]; exact hone), HK.out, HY.out])
        have HLe4 := Lib.hid (show s4.ts.length ≤ s3.ts.length by have := (Hle.out s3 HR1.out.fin).len; rw [HY.out] at this; exact this)
        have HAr := Lib.hid (ev_arity (n := (o : Int)) (w := w1) har)
        clear hone har hz hy
        go_wp2_with fail
        refine HAr.out.mono ?_
        rintro e w2 ⟨u, rfl, hb, rfl⟩
        have HR2 := Lib.hid (HR1.out.next hb)
        have HB2 := Lib.hid (HB1.out.trans (ButM.of hb))
        have HU2 := Lib.hid (HU1.out.next hb)
        have HV2 := Lib.hid (HV1.out.next hb)
        have HE2 := Lib.hid (show exC (Bv U V w2.heap.size) w2 (.mk hd l) (xcell (hd, A, l.length, cap)) from exC_ok.go (fun k hk => hb.block k hk.2.1) (fun k hk => ⟨hk.1, Nat.lt_of_lt_of_le hk.2.1 hb.size, hk.2.2⟩) HE1.out)
        have HPx := Lib.hid (show ∀ W, Below w2.heap.size w2 W → Calls Tryz.prog 61 #[.pointer (some ⟨m, 0, none⟩)] W (fun e w4 => ∃ A4 cap4, e = .returned (XV y.hd A4 y.kids.length cap4) ∧ Hid (PartS m N U V w (.mk hd l) hd A l.length cap y s4 A4 cap4 w4) ∧ V8 w4 V hd A l.length cap) from fun W hW => (HPp.out s3 W (HR2.out.next hW) hs3N).mono (fun e w4 hE => by
          rw [HY.out] at hE
          obtain ⟨A4, cap4, rfl, hC, hR, hM⟩ := RuE.ev hE
          have hV := (HV2.out.next hW).but HmV.out hM
          exact ⟨A4, cap4, rfl, Lib.hid ⟨hR, (HB2.out.trans (ButM.of hW)).trans hM, (HU2.out.next hW).but HmU.out hM, hV, exC_ok.go (fun k hk => (hM.block k (Nat.lt_of_lt_of_le hk.2.1 hW.size) (by have := hk.1; have := HmU.out; omega)).trans (hW.block k hk.2.1)) (fun k hk => ⟨hk.1, by have := hk.2.1; have := hW.size; have := hM.size; omega, hk.2.2⟩) HE2.out, exC_ok.go (fun _ _ => rfl) (fun k hk => ⟨by have := hk.1; have := hW.size; have := HU2.out.lt; omega, hk.2, by have := hk.1; have := hW.size; have := HV2.out.lt; omega⟩) hC⟩, v8_of hV⟩))
        have HMd := Lib.hid (show ∀ (A4 : Option Addr) (cap4 : Nat) (w4 W : World) (_ : Hid (PartS m N U V w (.mk hd l) hd A l.length cap y s4 A4 cap4 w4)) (_ : W.heap = (w4.alloc (.cells (xcell (hd, A, l.length, cap) ++ xcell (y.hd, A4, y.kids.length, cap4)).toArray 37)).heap) (_ : Below w4.heap.size w4 W),
            Calls Tryz.prog 112 #[.int .i64 3, .int .i64 o, .slice (some ⟨w4.heap.size, 0, none⟩) 2 2] W (fun e w5 => e = .returned (XV (hdO (o : Int)) (some ⟨w4.heap.size, 0, none⟩) 2 2) ∧ Hid (MadeS m U V w (Pa.mkOp o [.mk hd l, y]) (hdO (o : Int)) s4 (some ⟨w4.heap.size, 0, none⟩) 2 2 hd A l.length cap w5) ∧ V8 w5 V hd A l.length cap) from fun A4 cap4 w4 W hP hW hb => (pmade_any 3 o (some ⟨w4.heap.size, 0, none⟩) 2 2 W).mono (fun e w5 hE => by
          obtain ⟨rfl, hb5⟩ := hE
          exact ⟨rfl, made_two hP.out hW hb hb5⟩))
        clear hb hs3N d0 fd0 d1 fd1 d2 fd2 d3 fd3 d4 fd4 d5 fd5 d6 fd6 d7 fd7
        have d0 : (w2).cell? ⟨V, 0, none⟩ = some (.int .i64 hd.k) := (HV2.out).cell 0
        have d1 : (w2).cell? ⟨V, 1, none⟩ = some (.int .i64 hd.n) := (HV2.out).cell 1
        have d2 : (w2).cell? ⟨V, 2, none⟩ = some (.int .i64 hd.vk) := (HV2.out).cell 2
        have d3 : (w2).cell? ⟨V, 3, none⟩ = some (.int .i64 hd.vn) := (HV2.out).cell 3
        have d4 : (w2).cell? ⟨V, 4, none⟩ = some (.string hd.vs) := (HV2.out).cell 4
        have d5 : (w2).cell? ⟨V, 5, none⟩ = some (.string hd.tab) := (HV2.out).cell 5
        have d6 : (w2).cell? ⟨V, 6, none⟩ = some (.string hd.col) := (HV2.out).cell 6
        have d7 : (w2).cell? ⟨V, 7, none⟩ = some (.slice A l.length cap) := (HV2.out).cell 7
        have fd0 := (HV2.out).frozen 0
        have fd1 := (HV2.out).frozen 1
        have fd2 := (HV2.out).frozen 2
        have fd3 := (HV2.out).frozen 3
        have fd4 := (HV2.out).frozen 4
        have fd5 := (HV2.out).frozen 5
        have fd6 := (HV2.out).frozen 6
        have fd7 := (HV2.out).frozen 7
        go_wp2_with fail
        go_region_with (first
          | (refine (HPx.out _ (by repeat (first | exact Below.refl _ _ | refine Below.drew ?_))).mono ?_; rintro e w4 ⟨A4, cap4, rfl, HP4, d0, d1, d2, d3, d4, d5, d6, d7, fd0, fd1, fd2, fd3, fd4, fd5, fd6, fd7⟩)
          | (refine (HMd.out _ _ _ _ HP4 rfl (by repeat (first | exact Below.refl _ _ | refine Below.drew ?_ | refine Below.alloc ?_ (Nat.le_refl _) _))).mono ?_; rintro e w5 ⟨rfl, HP5, d0, d1, d2, d3, d4, d5, d6, d7, fd0, fd1, fd2, fd3, fd4, fd5, fd6, fd7⟩))
        all_goals
          have HSn := Lib.hid (RowS.step (part := part) (ops := ops) (N := N) (nn := nn) (n := 2) rfl (by have := HLs.out; have := HS.out.len; have := HLe4.out; omega) (by have := HLs.out; have := HS.out.most; have := HLe4.out; omega) HmU.out HUV.out (Nat.le_of_eq HUl.out) HP5.out.rs HP5.out.but HP5.out.bu HP5.out.ez HX2.out ((OnU.refl V w5).set.set.set.set.set.set.set.set) (box8_set HP5.out.bv _ _ _ _ _ _ _ _))
          go_wp2_with fail
          go_roundw
          case rel => exact ⟨_, _, _, _, _, HSn⟩
          case measure => rw [HSn.out.rs.len, HS.out.rs.len]; have := HLs.out; have := HLe4.out; omega
end Go.Proofs.YtfjimoccliejdaaGreatDoor
end
section
namespace Go.Proofs.YtfjimoccliejdaaGreatDoor
open Go.RowKit Go.Shelf

set_option maxRecDepth 100000 in
set_option maxHeartbeats 4000000 in
theorem row_not (part : Pa.Ps → Ex × Pa.Ps) (hle : ∀ s, Pa.Fin s.ts → Pa.Le s (part s).2) (m N : Nat) (HP : Ok 113 part m N) (ops : List Nat) (hops : ∀ op ∈ ops, op < 17) (hnz : ∀ op ∈ ops, op ≠ 0) (hl : ops.length ≤ 100) (s : Pa.Ps) (g c : Nat) (w : World) (h : RS m w s) (hN : s.ts.length ≤ N) (hgm : m < g) (hO : ∀ (j op : Nat), ops[j]? = some op → w.cell? ⟨g, j, none⟩ = some (.int .i64 op)) :
    Calls Tryz.prog 60 #[.pointer (some ⟨m, 0, none⟩), .func (.func 113) #[.pointer (some ⟨m, 0, none⟩)] #[], .slice (some ⟨g, 0, none⟩) ops.length c] w (RuE exC m w (Pa.rowP part ops (part s).2.ts.length (part s).1 (part s).2).1 (Pa.rowP part ops (part s).2.ts.length (part s).1 (part s).2).2) := by
  have HPp := Lib.hid HP
  have HO := Lib.hid hO
  have HOps := Lib.hid (And.intro hops hnz)
  have Hle := Lib.hid hle
  clear HP hO hops hnz hle
  have HB := Lib.hid (ba w (.cells #[.int .i64 0, .int .i64 0, .int .i64 0, .int .i64 0, .string ⟨#[]⟩, .string ⟨#[]⟩, .string ⟨#[]⟩, .slice none 0 0] 37))
  have HU := Lib.hid (show BxU _ _ #[.int .i64 0, .int .i64 0, .int .i64 0, .int .i64 0, .string ⟨#[]⟩, .string ⟨#[]⟩, .string ⟨#[]⟩, .slice none 0 0] 37 from (MapKept.heap_alloc w (.cells #[.int .i64 0, .int .i64 0, .int .i64 0, .int .i64 0, .string ⟨#[]⟩, .string ⟨#[]⟩, .string ⟨#[]⟩, .slice none 0 0] 37)).1)
  have H1 := Lib.hid (h.next HB.out)
  have hmU := h.lt
  have HFin := Lib.hid h.fin
  obtain ⟨U, hU⟩ : ∃ U, w.heap.size = U := ⟨_, rfl⟩
  have HUl := Lib.hid hU
  rw [hU] at HU hmU
  have HmU := Lib.hid hmU
  obtain ⟨X, hX⟩ : ∃ X, Pa.rowP part ops (part s).2.ts.length (part s).1 (part s).2 = X := ⟨_, rfl⟩
  rw [hX]
  have HX := Lib.hid hX
  clear h hX hmU
  go_enter Tryz.func60, Tryz.ntmps60
  go_wp2_with fail
  generalize w.alloc (.cells #[.int .i64 0, .int .i64 0, .int .i64 0, .int .i64 0, .string ⟨#[]⟩, .string ⟨#[]⟩, .string ⟨#[]⟩, .slice none 0 0] 37) = W1 at HB HU H1 ⊢
  clear hU
  have HM1 := Lib.hid (show ButM m w W1 from ButM.of HB.out)
  have HT1 := Lib.hid (HPp.out s W1 H1.out hN)
  obtain ⟨⟨x1, s1⟩, hs1⟩ : ∃ q, part s = q := ⟨_, rfl⟩
  rw [hs1] at HT1
  have HK1 := Lib.hid hs1
  clear hs1
  simp only at HT1
  go_wp2_with fail
  refine HT1.out.mono ?_
  intro e v1 hE
  obtain ⟨A1, cap1, rfl, hC, hR, hM⟩ := RuE.ev hE
  clear hE
  have hs1 : s1.ts.length ≤ N := by have := (Hle.out s HFin.out).len; rw [HK1.out] at this; simp only at this; omega
  have HX1 := Lib.hid (show Pa.rowP part ops s1.ts.length x1 s1 = X by rw [← HX.out, HK1.out])
  obtain ⟨hd1, l1⟩ := x1
  simp only [Ex.hd, Ex.kids] at hC ⊢
  have hbv := ba v1 (xbox hd1 A1 l1.length cap1)
  have hVn := (MapKept.heap_alloc v1 (xbox hd1 A1 l1.length cap1)).1
  obtain ⟨V, hV⟩ : ∃ V, v1.heap.size = V := ⟨_, rfl⟩
  rw [hV] at hVn
  have hUW := HU.out.lt
  have hUV : U < V := by have := hM.size; omega
  have HS1 := Lib.hid (show RowS part ops m N U V w X (.mk hd1 l1) s1 s1.ts.length A1 cap1 (v1.alloc (xbox hd1 A1 l1.length cap1)) from ⟨Nat.le_refl _, hs1, hR.next hbv, (HM1.out.trans hM).trans (ButM.of hbv), (HU.out.but HmU.out hM).next hbv, hVn, exC_ok.go (fun k hk => hbv.block k hk.2) (fun k hk => ⟨by have := hk.1; omega, by have := hk.2; have := hbv.size; omega, by have := hk.2; omega⟩) hC, HX1.out⟩)
  have HV := Lib.hid hV
  have HUV := Lib.hid hUV
  clear hR hM hC hN hbv hVn hUW hs1 hUV
  go_wp2_with fail
  clear hV
  go_loopw [8] (fun _ W => ∃ (x : Ex) (s1 : Pa.Ps) (nn : Nat) (A : Option Addr) (cap : Nat), Hid (RowS part ops m N U V w X x s1 nn A cap W)) (fun _ W => lenR m W)
  case atStart => exact ⟨_, _, _, _, _, HS1⟩
  case round =>
    obtain ⟨x, s2, nn, A, cap, HS⟩ := hrel
    have hOw : ∀ (j op : Nat), ops[j]? = some op → wr.cell? ⟨g, j, none⟩ = some (.int .i64 op) := fun j op hj => HS.out.but.cell (Nat.ne_of_gt hgm) (HO.out j op hj)
    have HT := Lib.hid (oper_any m s2 ops g c wr HS.out.rs HOps.out.1 hOw hgm hl)
    obtain ⟨hle2, hnz2, hz2⟩ := Pa.operP_le ops HS.out.rs.fin HOps.out.2
    have hlt := operP_lt ops s2 HOps.out.1
    obtain ⟨o, ho⟩ : ∃ o, (Pa.operP ops s2).1 = o := ⟨_, rfl⟩
    obtain ⟨s3, hs3⟩ : ∃ s3, (Pa.operP ops s2).2 = s3 := ⟨_, rfl⟩
    rw [ho, hs3] at HT hnz2 hz2
    rw [ho] at hlt
    rw [hs3] at hle2
    have HK := Lib.hid (show Pa.operP ops s2 = (o, s3) by rw [← ho, ← hs3])
    have HLE := Lib.hid hle2
    have HNZ := Lib.hid hnz2
    have HZ := Lib.hid hz2
    clear hOw hle2 hnz2 hz2 ho hs3
    go_wp2_with fail
    refine HT.out.mono ?_
    rintro e w1 ⟨rfl, hR, hM⟩
    have HR1 := Lib.hid hR
    have HB1 := Lib.hid (HS.out.but.trans hM)
    have HU1 := Lib.hid (HS.out.bu.but HmU.out hM)
    have hmV : m < V := Nat.lt_trans HmU.out HUV.out
    have HV1 := Lib.hid (HS.out.bv.but hmV hM)
    have HE1 := Lib.hid (show exC (Bv U V w1.heap.size) w1 x (xcell (x.hd, A, x.kids.length, cap)) from exC_ok.go (fun k hk => hM.block k hk.2.1 (by have := hk.1; have := HmU.out; omega)) (fun k hk => ⟨hk.1, Nat.lt_of_lt_of_le hk.2.1 hM.size, hk.2.2⟩) HS.out.ex)
    have HmV := Lib.hid hmV
    have hUltV := HUV.out
    have hUneV : U ≠ V := Nat.ne_of_lt hUltV
    have hVneU : V ≠ U := Nat.ne_of_gt hUltV
    clear hR hM hmV hUltV
    obtain ⟨hd, l⟩ := x
    simp only [Ex.hd, Ex.kids] at HV1 HE1
    have d0 : (w1).cell? ⟨V, 0, none⟩ = some (.int .i64 hd.k) := (HV1.out).cell 0
    have d1 : (w1).cell? ⟨V, 1, none⟩ = some (.int .i64 hd.n) := (HV1.out).cell 1
    have d2 : (w1).cell? ⟨V, 2, none⟩ = some (.int .i64 hd.vk) := (HV1.out).cell 2
    have d3 : (w1).cell? ⟨V, 3, none⟩ = some (.int .i64 hd.vn) := (HV1.out).cell 3
    have d4 : (w1).cell? ⟨V, 4, none⟩ = some (.string hd.vs) := (HV1.out).cell 4
    have d5 : (w1).cell? ⟨V, 5, none⟩ = some (.string hd.tab) := (HV1.out).cell 5
    have d6 : (w1).cell? ⟨V, 6, none⟩ = some (.string hd.col) := (HV1.out).cell 6
    have d7 : (w1).cell? ⟨V, 7, none⟩ = some (.slice A l.length cap) := (HV1.out).cell 7
    have fd0 := (HV1.out).frozen 0
    have fd1 := (HV1.out).frozen 1
    have fd2 := (HV1.out).frozen 2
    have fd3 := (HV1.out).frozen 3
    have fd4 := (HV1.out).frozen 4
    have fd5 := (HV1.out).frozen 5
    have fd6 := (HV1.out).frozen 6
    have fd7 := (HV1.out).frozen 7
    by_cases hz : o = 0
    · subst hz
      obtain rfl := HZ.out rfl
      have HXe := Lib.hid (show X = (.mk hd l, s3) by rw [← HS.out.eq, Pa.rowP_stop (by rw [HK.out])])
      have c0 : (w1).cell? ⟨U, 0, none⟩ = some (.int .i64 0) := (HU1.out).cell 0
      have c1 : (w1).cell? ⟨U, 1, none⟩ = some (.int .i64 0) := (HU1.out).cell 1
      have c2 : (w1).cell? ⟨U, 2, none⟩ = some (.int .i64 0) := (HU1.out).cell 2
      have c3 : (w1).cell? ⟨U, 3, none⟩ = some (.int .i64 0) := (HU1.out).cell 3
      have c4 : (w1).cell? ⟨U, 4, none⟩ = some (.string ⟨#[]⟩) := (HU1.out).cell 4
      have c5 : (w1).cell? ⟨U, 5, none⟩ = some (.string ⟨#[]⟩) := (HU1.out).cell 5
      have c6 : (w1).cell? ⟨U, 6, none⟩ = some (.string ⟨#[]⟩) := (HU1.out).cell 6
      have c7 : (w1).cell? ⟨U, 7, none⟩ = some (.slice none 0 0) := (HU1.out).cell 7
      have fc0 := (HU1.out).frozen 0
      have fc1 := (HU1.out).frozen 1
      have fc2 := (HU1.out).frozen 2
      have fc3 := (HU1.out).frozen 3
      have fc4 := (HU1.out).frozen 4
      have fc5 := (HU1.out).frozen 5
      have fc6 := (HU1.out).frozen 6
      have fc7 := (HU1.out).frozen 7
      go_wp2_with fail
      exact bodyPost_ret (v := XV hd A l.length cap) (by simp [results, Tryz.results60, go_sem, c0, c1, c2, c3, c4, c5, c6, c7]) rfl (by rw [HXe.out]; exact RuE.fin (c := xcell (hd, A, l.length, cap)) exC_ok HUl.out HmU.out HB1.out HR1.out (exC_ok.go (fun _ _ => rfl) (fun k hk => ⟨hk.1, hk.2.1⟩) HE1.out) (OnU.refl _ _).set.set.set.set.set.set.set.set)
    · have hzI : ¬ ((o : Int) = 0) := by omega
      have har := isOne_ar hlt
      obtain ⟨nn, rfl⟩ : ∃ k, nn = k + 1 := ⟨nn - 1, by have := (HNZ.out hz).2; have := HS.out.len; omega⟩
      cases hone : Pa.isOne o with
      | true =>
        rw [if_pos hone] at har
        have HX2 := Lib.hid (show Pa.rowP part ops nn (Pa.mkOp o [.mk hd l]) s3 = X by rw [← HS.out.eq, rowP_one (by rw [HK.out]; exact hz) (by rw [HK.out]; exact hone), HK.out])
        have HLs := Lib.hid (show s3.ts.length + 1 ≤ s2.ts.length from (HNZ.out hz).2)
        have HAr := Lib.hid (ev_arity (n := (o : Int)) (w := w1) har)
        clear hone har hz
        go_wp2_with fail
        refine HAr.out.mono ?_
        rintro e w2 ⟨u, rfl, hb, rfl⟩
        have HR2 := Lib.hid (HR1.out.next hb)
        have HB2 := Lib.hid (HB1.out.trans (ButM.of hb))
        have HU2 := Lib.hid (HU1.out.next hb)
        have HV2 := Lib.hid (HV1.out.next hb)
        have HE2 := Lib.hid (show exC (Bv U V w2.heap.size) w2 (.mk hd l) (xcell (hd, A, l.length, cap)) from exC_ok.go (fun k hk => hb.block k hk.2.1) (fun k hk => ⟨hk.1, Nat.lt_of_lt_of_le hk.2.1 hb.size, hk.2.2⟩) HE1.out)
        clear hb d0 fd0 d1 fd1 d2 fd2 d3 fd3 d4 fd4 d5 fd5 d6 fd6 d7 fd7
        have d0 : (w2).cell? ⟨V, 0, none⟩ = some (.int .i64 hd.k) := (HV2.out).cell 0
        have d1 : (w2).cell? ⟨V, 1, none⟩ = some (.int .i64 hd.n) := (HV2.out).cell 1
        have d2 : (w2).cell? ⟨V, 2, none⟩ = some (.int .i64 hd.vk) := (HV2.out).cell 2
        have d3 : (w2).cell? ⟨V, 3, none⟩ = some (.int .i64 hd.vn) := (HV2.out).cell 3
        have d4 : (w2).cell? ⟨V, 4, none⟩ = some (.string hd.vs) := (HV2.out).cell 4
        have d5 : (w2).cell? ⟨V, 5, none⟩ = some (.string hd.tab) := (HV2.out).cell 5
        have d6 : (w2).cell? ⟨V, 6, none⟩ = some (.string hd.col) := (HV2.out).cell 6
        have d7 : (w2).cell? ⟨V, 7, none⟩ = some (.slice A l.length cap) := (HV2.out).cell 7
        have fd0 := (HV2.out).frozen 0
        have fd1 := (HV2.out).frozen 1
        have fd2 := (HV2.out).frozen 2
        have fd3 := (HV2.out).frozen 3
        have fd4 := (HV2.out).frozen 4
        have fd5 := (HV2.out).frozen 5
        have fd6 := (HV2.out).frozen 6
        have fd7 := (HV2.out).frozen 7
        have hE3 := exC_one (B' := Bv U V (w2.heap.size + 1)) (hdO (o : Int)) HE2.out (fun k hk => ⟨hk.2.1, hk.1, Nat.lt_succ_of_lt hk.2.1, hk.2.2⟩) ⟨HU2.out.lt, Nat.lt_succ_self _, Nat.ne_of_gt HV2.out.lt⟩ 37
        have hbx := ba w2 (xbox hd A l.length cap)
        have HE3 := Lib.hid hE3
        have HBx := Lib.hid hbx
        have HR3 := Lib.hid (HR2.out.next hbx)
        have HU3 := Lib.hid (HU2.out.next hbx)
        have HV3 := Lib.hid (HV2.out.next hbx)
        go_wp2_with fail
        refine (pmade_any 3 o (some ⟨w2.heap.size, 0, none⟩) 1 1 _).mono ?_
        rintro e w3 ⟨rfl, hb⟩
        have HR4 := Lib.hid (HR3.out.next hb)
        have HB4 := Lib.hid (HB2.out.trans ((ButM.of hbx).trans (ButM.of hb)))
        have HU4 := Lib.hid (HU3.out.next hb)
        have HV4 := Lib.hid (HV3.out.next hb)
        have HE4 := Lib.hid (show exC (Bv U V w3.heap.size) w3 (Pa.mkOp o [.mk hd l]) (xcell (hdO (o : Int), some ⟨w2.heap.size, 0, none⟩, 1, 1)) from exC_ok.go (fun k hk => hb.block k (by rw [World.size_alloc]; exact hk.2.1)) (fun k hk => ⟨hk.1, by have := hk.2.1; have := hb.size; rw [World.size_alloc] at this; omega, hk.2.2⟩) hE3)
        clear hb hbx hE3 d0 fd0 d1 fd1 d2 fd2 d3 fd3 d4 fd4 d5 fd5 d6 fd6 d7 fd7
        have d0 : (w3).cell? ⟨V, 0, none⟩ = some (.int .i64 hd.k) := (HV4.out).cell 0
        have d1 : (w3).cell? ⟨V, 1, none⟩ = some (.int .i64 hd.n) := (HV4.out).cell 1
        have d2 : (w3).cell? ⟨V, 2, none⟩ = some (.int .i64 hd.vk) := (HV4.out).cell 2
        have d3 : (w3).cell? ⟨V, 3, none⟩ = some (.int .i64 hd.vn) := (HV4.out).cell 3
        have d4 : (w3).cell? ⟨V, 4, none⟩ = some (.string hd.vs) := (HV4.out).cell 4
        have d5 : (w3).cell? ⟨V, 5, none⟩ = some (.string hd.tab) := (HV4.out).cell 5
        have d6 : (w3).cell? ⟨V, 6, none⟩ = some (.string hd.col) := (HV4.out).cell 6
        have d7 : (w3).cell? ⟨V, 7, none⟩ = some (.slice A l.length cap) := (HV4.out).cell 7
        have fd0 := (HV4.out).frozen 0
        have fd1 := (HV4.out).frozen 1
        have fd2 := (HV4.out).frozen 2
        have fd3 := (HV4.out).frozen 3
        have fd4 := (HV4.out).frozen 4
        have fd5 := (HV4.out).frozen 5
        have fd6 := (HV4.out).frozen 6
        have fd7 := (HV4.out).frozen 7
        have HSn := Lib.hid (RowS.step (part := part) (ops := ops) (N := N) (nn := nn) (n := 1) rfl (by have := HLs.out; have := HS.out.len; omega) (by have := HLs.out; have := HS.out.most; omega) HmU.out HUV.out (Nat.le_of_eq HUl.out) HR4.out HB4.out HU4.out HE4.out HX2.out ((OnU.refl V w3).set.set.set.set.set.set.set.set) (box8_set HV4.out _ _ _ _ _ _ _ _))
        go_wp2_with fail
        go_roundw
        case rel => exact ⟨_, _, _, _, _, HSn⟩
        case measure => rw [HSn.out.rs.len, HS.out.rs.len]; have := HLs.out; omega
      | false =>
        rw [if_neg (by simp [hone]), if_neg hz] at har
        have HLs := Lib.hid (show s3.ts.length + 1 ≤ s2.ts.length from (HNZ.out hz).2)
        have hs3N : s3.ts.length ≤ N := by have := HLs.out; have := HS.out.most; omega
        obtain ⟨⟨y, s4⟩, hy⟩ : ∃ q, part s3 = q := ⟨_, rfl⟩
        have HY := Lib.hid hy
        have HX2 := Lib.hid (show Pa.rowP part ops nn (Pa.mkOp o [.mk hd l, y]) s4 = X by rw [← HS.out.eq, rowP_two (by rw [HK.out]; exact hz) (by rw [HK.out]; exact hone), HK.out, HY.out])
        have HLe4 := Lib.hid (show s4.ts.length ≤ s3.ts.length by have := (Hle.out s3 HR1.out.fin).len; rw [HY.out] at this; exact this)
        have HAr := Lib.hid (ev_arity (n := (o : Int)) (w := w1) har)
        clear hone har hz hy
        go_wp2_with fail
        refine HAr.out.mono ?_
        rintro e w2 ⟨u, rfl, hb, rfl⟩
        have HR2 := Lib.hid (HR1.out.next hb)
        have HB2 := Lib.hid (HB1.out.trans (ButM.of hb))
        have HU2 := Lib.hid (HU1.out.next hb)
        have HV2 := Lib.hid (HV1.out.next hb)
        have HE2 := Lib.hid (show exC (Bv U V w2.heap.size) w2 (.mk hd l) (xcell (hd, A, l.length, cap)) from exC_ok.go (fun k hk => hb.block k hk.2.1) (fun k hk => ⟨hk.1, Nat.lt_of_lt_of_le hk.2.1 hb.size, hk.2.2⟩) HE1.out)
        have HPx := Lib.hid (show ∀ W, Below w2.heap.size w2 W → Calls Tryz.prog 113 #[.pointer (some ⟨m, 0, none⟩)] W (fun e w4 => ∃ A4 cap4, e = .returned (XV y.hd A4 y.kids.length cap4) ∧ Hid (PartS m N U V w (.mk hd l) hd A l.length cap y s4 A4 cap4 w4) ∧ V8 w4 V hd A l.length cap) from fun W hW => (HPp.out s3 W (HR2.out.next hW) hs3N).mono (fun e w4 hE => by
          rw [HY.out] at hE
          obtain ⟨A4, cap4, rfl, hC, hR, hM⟩ := RuE.ev hE
          have hV := (HV2.out.next hW).but HmV.out hM
          exact ⟨A4, cap4, rfl, Lib.hid ⟨hR, (HB2.out.trans (ButM.of hW)).trans hM, (HU2.out.next hW).but HmU.out hM, hV, exC_ok.go (fun k hk => (hM.block k (Nat.lt_of_lt_of_le hk.2.1 hW.size) (by have := hk.1; have := HmU.out; omega)).trans (hW.block k hk.2.1)) (fun k hk => ⟨hk.1, by have := hk.2.1; have := hW.size; have := hM.size; omega, hk.2.2⟩) HE2.out, exC_ok.go (fun _ _ => rfl) (fun k hk => ⟨by have := hk.1; have := hW.size; have := HU2.out.lt; omega, hk.2, by have := hk.1; have := hW.size; have := HV2.out.lt; omega⟩) hC⟩, v8_of hV⟩))
        have HMd := Lib.hid (show ∀ (A4 : Option Addr) (cap4 : Nat) (w4 W : World) (_ : Hid (PartS m N U V w (.mk hd l) hd A l.length cap y s4 A4 cap4 w4)) (_ : W.heap = (w4.alloc (.cells (xcell (hd, A, l.length, cap) ++ xcell (y.hd, A4, y.kids.length, cap4)).toArray 37)).heap) (_ : Below w4.heap.size w4 W),
            Calls Tryz.prog 112 #[.int .i64 3, .int .i64 o, .slice (some ⟨w4.heap.size, 0, none⟩) 2 2] W (fun e w5 => e = .returned (XV (hdO (o : Int)) (some ⟨w4.heap.size, 0, none⟩) 2 2) ∧ Hid (MadeS m U V w (Pa.mkOp o [.mk hd l, y]) (hdO (o : Int)) s4 (some ⟨w4.heap.size, 0, none⟩) 2 2 hd A l.length cap w5) ∧ V8 w5 V hd A l.length cap) from fun A4 cap4 w4 W hP hW hb => (pmade_any 3 o (some ⟨w4.heap.size, 0, none⟩) 2 2 W).mono (fun e w5 hE => by
          obtain ⟨rfl, hb5⟩ := hE
          exact ⟨rfl, made_two hP.out hW hb hb5⟩))
        clear hb hs3N d0 fd0 d1 fd1 d2 fd2 d3 fd3 d4 fd4 d5 fd5 d6 fd6 d7 fd7
        have d0 : (w2).cell? ⟨V, 0, none⟩ = some (.int .i64 hd.k) := (HV2.out).cell 0
        have d1 : (w2).cell? ⟨V, 1, none⟩ = some (.int .i64 hd.n) := (HV2.out).cell 1
        have d2 : (w2).cell? ⟨V, 2, none⟩ = some (.int .i64 hd.vk) := (HV2.out).cell 2
        have d3 : (w2).cell? ⟨V, 3, none⟩ = some (.int .i64 hd.vn) := (HV2.out).cell 3
        have d4 : (w2).cell? ⟨V, 4, none⟩ = some (.string hd.vs) := (HV2.out).cell 4
        have d5 : (w2).cell? ⟨V, 5, none⟩ = some (.string hd.tab) := (HV2.out).cell 5
        have d6 : (w2).cell? ⟨V, 6, none⟩ = some (.string hd.col) := (HV2.out).cell 6
        have d7 : (w2).cell? ⟨V, 7, none⟩ = some (.slice A l.length cap) := (HV2.out).cell 7
        have fd0 := (HV2.out).frozen 0
        have fd1 := (HV2.out).frozen 1
        have fd2 := (HV2.out).frozen 2
        have fd3 := (HV2.out).frozen 3
        have fd4 := (HV2.out).frozen 4
        have fd5 := (HV2.out).frozen 5
        have fd6 := (HV2.out).frozen 6
        have fd7 := (HV2.out).frozen 7
        go_wp2_with fail
        go_region_with (first
          | (refine (HPx.out _ (by repeat (first | exact Below.refl _ _ | refine Below.drew ?_))).mono ?_; rintro e w4 ⟨A4, cap4, rfl, HP4, d0, d1, d2, d3, d4, d5, d6, d7, fd0, fd1, fd2, fd3, fd4, fd5, fd6, fd7⟩)
          | (refine (HMd.out _ _ _ _ HP4 rfl (by repeat (first | exact Below.refl _ _ | refine Below.drew ?_ | refine Below.alloc ?_ (Nat.le_refl _) _))).mono ?_; rintro e w5 ⟨rfl, HP5, d0, d1, d2, d3, d4, d5, d6, d7, fd0, fd1, fd2, fd3, fd4, fd5, fd6, fd7⟩))
        all_goals
          have HSn := Lib.hid (RowS.step (part := part) (ops := ops) (N := N) (nn := nn) (n := 2) rfl (by have := HLs.out; have := HS.out.len; have := HLe4.out; omega) (by have := HLs.out; have := HS.out.most; have := HLe4.out; omega) HmU.out HUV.out (Nat.le_of_eq HUl.out) HP5.out.rs HP5.out.but HP5.out.bu HP5.out.ez HX2.out ((OnU.refl V w5).set.set.set.set.set.set.set.set) (box8_set HP5.out.bv _ _ _ _ _ _ _ _))
          go_wp2_with fail
          go_roundw
          case rel => exact ⟨_, _, _, _, _, HSn⟩
          case measure => rw [HSn.out.rs.len, HS.out.rs.len]; have := HLs.out; have := HLe4.out; omega
end Go.Proofs.YtfjimoccliejdaaGreatDoor
end
section
namespace Go.Proofs.YtfjimoccliejdaaGreatDoor
open Go.RowKit Go.Shelf

set_option maxRecDepth 100000 in
set_option maxHeartbeats 4000000 in
theorem row_sum (part : Pa.Ps → Ex × Pa.Ps) (hle : ∀ s, Pa.Fin s.ts → Pa.Le s (part s).2) (m N : Nat) (HP : Ok 155 part m N) (ops : List Nat) (hops : ∀ op ∈ ops, op < 17) (hnz : ∀ op ∈ ops, op ≠ 0) (hl : ops.length ≤ 100) (s : Pa.Ps) (g c : Nat) (w : World) (h : RS m w s) (hN : s.ts.length ≤ N) (hgm : m < g) (hO : ∀ (j op : Nat), ops[j]? = some op → w.cell? ⟨g, j, none⟩ = some (.int .i64 op)) :
    Calls Tryz.prog 60 #[.pointer (some ⟨m, 0, none⟩), .func (.func 155) #[.pointer (some ⟨m, 0, none⟩)] #[], .slice (some ⟨g, 0, none⟩) ops.length c] w (RuE exC m w (Pa.rowP part ops (part s).2.ts.length (part s).1 (part s).2).1 (Pa.rowP part ops (part s).2.ts.length (part s).1 (part s).2).2) := by
  have HPp := Lib.hid HP
  have HO := Lib.hid hO
  have HOps := Lib.hid (And.intro hops hnz)
  have Hle := Lib.hid hle
  clear HP hO hops hnz hle
  have HB := Lib.hid (ba w (.cells #[.int .i64 0, .int .i64 0, .int .i64 0, .int .i64 0, .string ⟨#[]⟩, .string ⟨#[]⟩, .string ⟨#[]⟩, .slice none 0 0] 37))
  have HU := Lib.hid (show BxU _ _ #[.int .i64 0, .int .i64 0, .int .i64 0, .int .i64 0, .string ⟨#[]⟩, .string ⟨#[]⟩, .string ⟨#[]⟩, .slice none 0 0] 37 from (MapKept.heap_alloc w (.cells #[.int .i64 0, .int .i64 0, .int .i64 0, .int .i64 0, .string ⟨#[]⟩, .string ⟨#[]⟩, .string ⟨#[]⟩, .slice none 0 0] 37)).1)
  have H1 := Lib.hid (h.next HB.out)
  have hmU := h.lt
  have HFin := Lib.hid h.fin
  obtain ⟨U, hU⟩ : ∃ U, w.heap.size = U := ⟨_, rfl⟩
  have HUl := Lib.hid hU
  rw [hU] at HU hmU
  have HmU := Lib.hid hmU
  obtain ⟨X, hX⟩ : ∃ X, Pa.rowP part ops (part s).2.ts.length (part s).1 (part s).2 = X := ⟨_, rfl⟩
  rw [hX]
  have HX := Lib.hid hX
  clear h hX hmU
  go_enter Tryz.func60, Tryz.ntmps60
  go_wp2_with fail
  generalize w.alloc (.cells #[.int .i64 0, .int .i64 0, .int .i64 0, .int .i64 0, .string ⟨#[]⟩, .string ⟨#[]⟩, .string ⟨#[]⟩, .slice none 0 0] 37) = W1 at HB HU H1 ⊢
  clear hU
  have HM1 := Lib.hid (show ButM m w W1 from ButM.of HB.out)
  have HT1 := Lib.hid (HPp.out s W1 H1.out hN)
  obtain ⟨⟨x1, s1⟩, hs1⟩ : ∃ q, part s = q := ⟨_, rfl⟩
  rw [hs1] at HT1
  have HK1 := Lib.hid hs1
  clear hs1
  simp only at HT1
  go_wp2_with fail
  refine HT1.out.mono ?_
  intro e v1 hE
  obtain ⟨A1, cap1, rfl, hC, hR, hM⟩ := RuE.ev hE
  clear hE
  have hs1 : s1.ts.length ≤ N := by have := (Hle.out s HFin.out).len; rw [HK1.out] at this; simp only at this; omega
  have HX1 := Lib.hid (show Pa.rowP part ops s1.ts.length x1 s1 = X by rw [← HX.out, HK1.out])
  obtain ⟨hd1, l1⟩ := x1
  simp only [Ex.hd, Ex.kids] at hC ⊢
  have hbv := ba v1 (xbox hd1 A1 l1.length cap1)
  have hVn := (MapKept.heap_alloc v1 (xbox hd1 A1 l1.length cap1)).1
  obtain ⟨V, hV⟩ : ∃ V, v1.heap.size = V := ⟨_, rfl⟩
  rw [hV] at hVn
  have hUW := HU.out.lt
  have hUV : U < V := by have := hM.size; omega
  have HS1 := Lib.hid (show RowS part ops m N U V w X (.mk hd1 l1) s1 s1.ts.length A1 cap1 (v1.alloc (xbox hd1 A1 l1.length cap1)) from ⟨Nat.le_refl _, hs1, hR.next hbv, (HM1.out.trans hM).trans (ButM.of hbv), (HU.out.but HmU.out hM).next hbv, hVn, exC_ok.go (fun k hk => hbv.block k hk.2) (fun k hk => ⟨by have := hk.1; omega, by have := hk.2; have := hbv.size; omega, by have := hk.2; omega⟩) hC, HX1.out⟩)
  have HV := Lib.hid hV
  have HUV := Lib.hid hUV
  clear hR hM hC hN hbv hVn hUW hs1 hUV
  go_wp2_with fail
  clear hV
  go_loopw [8] (fun _ W => ∃ (x : Ex) (s1 : Pa.Ps) (nn : Nat) (A : Option Addr) (cap : Nat), Hid (RowS part ops m N U V w X x s1 nn A cap W)) (fun _ W => lenR m W)
  case atStart => exact ⟨_, _, _, _, _, HS1⟩
  case round =>
    obtain ⟨x, s2, nn, A, cap, HS⟩ := hrel
    have hOw : ∀ (j op : Nat), ops[j]? = some op → wr.cell? ⟨g, j, none⟩ = some (.int .i64 op) := fun j op hj => HS.out.but.cell (Nat.ne_of_gt hgm) (HO.out j op hj)
    have HT := Lib.hid (oper_any m s2 ops g c wr HS.out.rs HOps.out.1 hOw hgm hl)
    obtain ⟨hle2, hnz2, hz2⟩ := Pa.operP_le ops HS.out.rs.fin HOps.out.2
    have hlt := operP_lt ops s2 HOps.out.1
    obtain ⟨o, ho⟩ : ∃ o, (Pa.operP ops s2).1 = o := ⟨_, rfl⟩
    obtain ⟨s3, hs3⟩ : ∃ s3, (Pa.operP ops s2).2 = s3 := ⟨_, rfl⟩
    rw [ho, hs3] at HT hnz2 hz2
    rw [ho] at hlt
    rw [hs3] at hle2
    have HK := Lib.hid (show Pa.operP ops s2 = (o, s3) by rw [← ho, ← hs3])
    have HLE := Lib.hid hle2
    have HNZ := Lib.hid hnz2
    have HZ := Lib.hid hz2
    clear hOw hle2 hnz2 hz2 ho hs3
    go_wp2_with fail
    refine HT.out.mono ?_
    rintro e w1 ⟨rfl, hR, hM⟩
    have HR1 := Lib.hid hR
    have HB1 := Lib.hid (HS.out.but.trans hM)
    have HU1 := Lib.hid (HS.out.bu.but HmU.out hM)
    have hmV : m < V := Nat.lt_trans HmU.out HUV.out
    have HV1 := Lib.hid (HS.out.bv.but hmV hM)
    have HE1 := Lib.hid (show exC (Bv U V w1.heap.size) w1 x (xcell (x.hd, A, x.kids.length, cap)) from exC_ok.go (fun k hk => hM.block k hk.2.1 (by have := hk.1; have := HmU.out; omega)) (fun k hk => ⟨hk.1, Nat.lt_of_lt_of_le hk.2.1 hM.size, hk.2.2⟩) HS.out.ex)
    have HmV := Lib.hid hmV
    have hUltV := HUV.out
    have hUneV : U ≠ V := Nat.ne_of_lt hUltV
    have hVneU : V ≠ U := Nat.ne_of_gt hUltV
    clear hR hM hmV hUltV
    obtain ⟨hd, l⟩ := x
    simp only [Ex.hd, Ex.kids] at HV1 HE1
    have d0 : (w1).cell? ⟨V, 0, none⟩ = some (.int .i64 hd.k) := (HV1.out).cell 0
    have d1 : (w1).cell? ⟨V, 1, none⟩ = some (.int .i64 hd.n) := (HV1.out).cell 1
    have d2 : (w1).cell? ⟨V, 2, none⟩ = some (.int .i64 hd.vk) := (HV1.out).cell 2
    have d3 : (w1).cell? ⟨V, 3, none⟩ = some (.int .i64 hd.vn) := (HV1.out).cell 3
    have d4 : (w1).cell? ⟨V, 4, none⟩ = some (.string hd.vs) := (HV1.out).cell 4
    have d5 : (w1).cell? ⟨V, 5, none⟩ = some (.string hd.tab) := (HV1.out).cell 5
    have d6 : (w1).cell? ⟨V, 6, none⟩ = some (.string hd.col) := (HV1.out).cell 6
    have d7 : (w1).cell? ⟨V, 7, none⟩ = some (.slice A l.length cap) := (HV1.out).cell 7
    have fd0 := (HV1.out).frozen 0
    have fd1 := (HV1.out).frozen 1
    have fd2 := (HV1.out).frozen 2
    have fd3 := (HV1.out).frozen 3
    have fd4 := (HV1.out).frozen 4
    have fd5 := (HV1.out).frozen 5
    have fd6 := (HV1.out).frozen 6
    have fd7 := (HV1.out).frozen 7
    by_cases hz : o = 0
    · subst hz
      obtain rfl := HZ.out rfl
      have HXe := Lib.hid (show X = (.mk hd l, s3) by rw [← HS.out.eq, Pa.rowP_stop (by rw [HK.out])])
      have c0 : (w1).cell? ⟨U, 0, none⟩ = some (.int .i64 0) := (HU1.out).cell 0
      have c1 : (w1).cell? ⟨U, 1, none⟩ = some (.int .i64 0) := (HU1.out).cell 1
      have c2 : (w1).cell? ⟨U, 2, none⟩ = some (.int .i64 0) := (HU1.out).cell 2
      have c3 : (w1).cell? ⟨U, 3, none⟩ = some (.int .i64 0) := (HU1.out).cell 3
      have c4 : (w1).cell? ⟨U, 4, none⟩ = some (.string ⟨#[]⟩) := (HU1.out).cell 4
      have c5 : (w1).cell? ⟨U, 5, none⟩ = some (.string ⟨#[]⟩) := (HU1.out).cell 5
      have c6 : (w1).cell? ⟨U, 6, none⟩ = some (.string ⟨#[]⟩) := (HU1.out).cell 6
      have c7 : (w1).cell? ⟨U, 7, none⟩ = some (.slice none 0 0) := (HU1.out).cell 7
      have fc0 := (HU1.out).frozen 0
      have fc1 := (HU1.out).frozen 1
      have fc2 := (HU1.out).frozen 2
      have fc3 := (HU1.out).frozen 3
      have fc4 := (HU1.out).frozen 4
      have fc5 := (HU1.out).frozen 5
      have fc6 := (HU1.out).frozen 6
      have fc7 := (HU1.out).frozen 7
      go_wp2_with fail
      exact bodyPost_ret (v := XV hd A l.length cap) (by simp [results, Tryz.results60, go_sem, c0, c1, c2, c3, c4, c5, c6, c7]) rfl (by rw [HXe.out]; exact RuE.fin (c := xcell (hd, A, l.length, cap)) exC_ok HUl.out HmU.out HB1.out HR1.out (exC_ok.go (fun _ _ => rfl) (fun k hk => ⟨hk.1, hk.2.1⟩) HE1.out) (OnU.refl _ _).set.set.set.set.set.set.set.set)
    · have hzI : ¬ ((o : Int) = 0) := by omega
      have har := isOne_ar hlt
      obtain ⟨nn, rfl⟩ : ∃ k, nn = k + 1 := ⟨nn - 1, by have := (HNZ.out hz).2; have := HS.out.len; omega⟩
      cases hone : Pa.isOne o with
      | true =>
        rw [if_pos hone] at har
        have HX2 := Lib.hid (show Pa.rowP part ops nn (Pa.mkOp o [.mk hd l]) s3 = X by rw [← HS.out.eq, rowP_one (by rw [HK.out]; exact hz) (by rw [HK.out]; exact hone), HK.out])
        have HLs := Lib.hid (show s3.ts.length + 1 ≤ s2.ts.length from (HNZ.out hz).2)
        have HAr := Lib.hid (ev_arity (n := (o : Int)) (w := w1) har)
        clear hone har hz
        go_wp2_with fail
        refine HAr.out.mono ?_
        rintro e w2 ⟨u, rfl, hb, rfl⟩
        have HR2 := Lib.hid (HR1.out.next hb)
        have HB2 := Lib.hid (HB1.out.trans (ButM.of hb))
        have HU2 := Lib.hid (HU1.out.next hb)
        have HV2 := Lib.hid (HV1.out.next hb)
        have HE2 := Lib.hid (show exC (Bv U V w2.heap.size) w2 (.mk hd l) (xcell (hd, A, l.length, cap)) from exC_ok.go (fun k hk => hb.block k hk.2.1) (fun k hk => ⟨hk.1, Nat.lt_of_lt_of_le hk.2.1 hb.size, hk.2.2⟩) HE1.out)
        clear hb d0 fd0 d1 fd1 d2 fd2 d3 fd3 d4 fd4 d5 fd5 d6 fd6 d7 fd7
        have d0 : (w2).cell? ⟨V, 0, none⟩ = some (.int .i64 hd.k) := (HV2.out).cell 0
        have d1 : (w2).cell? ⟨V, 1, none⟩ = some (.int .i64 hd.n) := (HV2.out).cell 1
        have d2 : (w2).cell? ⟨V, 2, none⟩ = some (.int .i64 hd.vk) := (HV2.out).cell 2
        have d3 : (w2).cell? ⟨V, 3, none⟩ = some (.int .i64 hd.vn) := (HV2.out).cell 3
        have d4 : (w2).cell? ⟨V, 4, none⟩ = some (.string hd.vs) := (HV2.out).cell 4
        have d5 : (w2).cell? ⟨V, 5, none⟩ = some (.string hd.tab) := (HV2.out).cell 5
        have d6 : (w2).cell? ⟨V, 6, none⟩ = some (.string hd.col) := (HV2.out).cell 6
        have d7 : (w2).cell? ⟨V, 7, none⟩ = some (.slice A l.length cap) := (HV2.out).cell 7
        have fd0 := (HV2.out).frozen 0
        have fd1 := (HV2.out).frozen 1
        have fd2 := (HV2.out).frozen 2
        have fd3 := (HV2.out).frozen 3
        have fd4 := (HV2.out).frozen 4
        have fd5 := (HV2.out).frozen 5
        have fd6 := (HV2.out).frozen 6
        have fd7 := (HV2.out).frozen 7
        have hE3 := exC_one (B' := Bv U V (w2.heap.size + 1)) (hdO (o : Int)) HE2.out (fun k hk => ⟨hk.2.1, hk.1, Nat.lt_succ_of_lt hk.2.1, hk.2.2⟩) ⟨HU2.out.lt, Nat.lt_succ_self _, Nat.ne_of_gt HV2.out.lt⟩ 37
        have hbx := ba w2 (xbox hd A l.length cap)
        have HE3 := Lib.hid hE3
        have HBx := Lib.hid hbx
        have HR3 := Lib.hid (HR2.out.next hbx)
        have HU3 := Lib.hid (HU2.out.next hbx)
        have HV3 := Lib.hid (HV2.out.next hbx)
        go_wp2_with fail
        refine (pmade_any 3 o (some ⟨w2.heap.size, 0, none⟩) 1 1 _).mono ?_
        rintro e w3 ⟨rfl, hb⟩
        have HR4 := Lib.hid (HR3.out.next hb)
        have HB4 := Lib.hid (HB2.out.trans ((ButM.of hbx).trans (ButM.of hb)))
        have HU4 := Lib.hid (HU3.out.next hb)
        have HV4 := Lib.hid (HV3.out.next hb)
        have HE4 := Lib.hid (show exC (Bv U V w3.heap.size) w3 (Pa.mkOp o [.mk hd l]) (xcell (hdO (o : Int), some ⟨w2.heap.size, 0, none⟩, 1, 1)) from exC_ok.go (fun k hk => hb.block k (by rw [World.size_alloc]; exact hk.2.1)) (fun k hk => ⟨hk.1, by have := hk.2.1; have := hb.size; rw [World.size_alloc] at this; omega, hk.2.2⟩) hE3)
        clear hb hbx hE3 d0 fd0 d1 fd1 d2 fd2 d3 fd3 d4 fd4 d5 fd5 d6 fd6 d7 fd7
        have d0 : (w3).cell? ⟨V, 0, none⟩ = some (.int .i64 hd.k) := (HV4.out).cell 0
        have d1 : (w3).cell? ⟨V, 1, none⟩ = some (.int .i64 hd.n) := (HV4.out).cell 1
        have d2 : (w3).cell? ⟨V, 2, none⟩ = some (.int .i64 hd.vk) := (HV4.out).cell 2
        have d3 : (w3).cell? ⟨V, 3, none⟩ = some (.int .i64 hd.vn) := (HV4.out).cell 3
        have d4 : (w3).cell? ⟨V, 4, none⟩ = some (.string hd.vs) := (HV4.out).cell 4
        have d5 : (w3).cell? ⟨V, 5, none⟩ = some (.string hd.tab) := (HV4.out).cell 5
        have d6 : (w3).cell? ⟨V, 6, none⟩ = some (.string hd.col) := (HV4.out).cell 6
        have d7 : (w3).cell? ⟨V, 7, none⟩ = some (.slice A l.length cap) := (HV4.out).cell 7
        have fd0 := (HV4.out).frozen 0
        have fd1 := (HV4.out).frozen 1
        have fd2 := (HV4.out).frozen 2
        have fd3 := (HV4.out).frozen 3
        have fd4 := (HV4.out).frozen 4
        have fd5 := (HV4.out).frozen 5
        have fd6 := (HV4.out).frozen 6
        have fd7 := (HV4.out).frozen 7
        have HSn := Lib.hid (RowS.step (part := part) (ops := ops) (N := N) (nn := nn) (n := 1) rfl (by have := HLs.out; have := HS.out.len; omega) (by have := HLs.out; have := HS.out.most; omega) HmU.out HUV.out (Nat.le_of_eq HUl.out) HR4.out HB4.out HU4.out HE4.out HX2.out ((OnU.refl V w3).set.set.set.set.set.set.set.set) (box8_set HV4.out _ _ _ _ _ _ _ _))
        go_wp2_with fail
        go_roundw
        case rel => exact ⟨_, _, _, _, _, HSn⟩
        case measure => rw [HSn.out.rs.len, HS.out.rs.len]; have := HLs.out; omega
      | false =>
        rw [if_neg (by simp [hone]), if_neg hz] at har
        have HLs := Lib.hid (show s3.ts.length + 1 ≤ s2.ts.length from (HNZ.out hz).2)
        have hs3N : s3.ts.length ≤ N := by have := HLs.out; have := HS.out.most; omega
        obtain ⟨⟨y, s4⟩, hy⟩ : ∃ q, part s3 = q := ⟨_, rfl⟩
        have HY := Lib.hid hy
        have HX2 := Lib.hid (show Pa.rowP part ops nn (Pa.mkOp o [.mk hd l, y]) s4 = X by rw [← HS.out.eq, rowP_two (by rw [HK.out]; exact hz) (by rw [HK.out]; exact hone), HK.out, HY.out])
        have HLe4 := Lib.hid (show s4.ts.length ≤ s3.ts.length by have := (Hle.out s3 HR1.out.fin).len; rw [HY.out] at this; exact this)
        have HAr := Lib.hid (ev_arity (n := (o : Int)) (w := w1) har)
        clear hone har hz hy
        go_wp2_with fail
        refine HAr.out.mono ?_
        rintro e w2 ⟨u, rfl, hb, rfl⟩
        have HR2 := Lib.hid (HR1.out.next hb)
        have HB2 := Lib.hid (HB1.out.trans (ButM.of hb))
        have HU2 := Lib.hid (HU1.out.next hb)
        have HV2 := Lib.hid (HV1.out.next hb)
        have HE2 := Lib.hid (show exC (Bv U V w2.heap.size) w2 (.mk hd l) (xcell (hd, A, l.length, cap)) from exC_ok.go (fun k hk => hb.block k hk.2.1) (fun k hk => ⟨hk.1, Nat.lt_of_lt_of_le hk.2.1 hb.size, hk.2.2⟩) HE1.out)
        have HPx := Lib.hid (show ∀ W, Below w2.heap.size w2 W → Calls Tryz.prog 155 #[.pointer (some ⟨m, 0, none⟩)] W (fun e w4 => ∃ A4 cap4, e = .returned (XV y.hd A4 y.kids.length cap4) ∧ Hid (PartS m N U V w (.mk hd l) hd A l.length cap y s4 A4 cap4 w4) ∧ V8 w4 V hd A l.length cap) from fun W hW => (HPp.out s3 W (HR2.out.next hW) hs3N).mono (fun e w4 hE => by
          rw [HY.out] at hE
          obtain ⟨A4, cap4, rfl, hC, hR, hM⟩ := RuE.ev hE
          have hV := (HV2.out.next hW).but HmV.out hM
          exact ⟨A4, cap4, rfl, Lib.hid ⟨hR, (HB2.out.trans (ButM.of hW)).trans hM, (HU2.out.next hW).but HmU.out hM, hV, exC_ok.go (fun k hk => (hM.block k (Nat.lt_of_lt_of_le hk.2.1 hW.size) (by have := hk.1; have := HmU.out; omega)).trans (hW.block k hk.2.1)) (fun k hk => ⟨hk.1, by have := hk.2.1; have := hW.size; have := hM.size; omega, hk.2.2⟩) HE2.out, exC_ok.go (fun _ _ => rfl) (fun k hk => ⟨by have := hk.1; have := hW.size; have := HU2.out.lt; omega, hk.2, by have := hk.1; have := hW.size; have := HV2.out.lt; omega⟩) hC⟩, v8_of hV⟩))
        have HMd := Lib.hid (show ∀ (A4 : Option Addr) (cap4 : Nat) (w4 W : World) (_ : Hid (PartS m N U V w (.mk hd l) hd A l.length cap y s4 A4 cap4 w4)) (_ : W.heap = (w4.alloc (.cells (xcell (hd, A, l.length, cap) ++ xcell (y.hd, A4, y.kids.length, cap4)).toArray 37)).heap) (_ : Below w4.heap.size w4 W),
            Calls Tryz.prog 112 #[.int .i64 3, .int .i64 o, .slice (some ⟨w4.heap.size, 0, none⟩) 2 2] W (fun e w5 => e = .returned (XV (hdO (o : Int)) (some ⟨w4.heap.size, 0, none⟩) 2 2) ∧ Hid (MadeS m U V w (Pa.mkOp o [.mk hd l, y]) (hdO (o : Int)) s4 (some ⟨w4.heap.size, 0, none⟩) 2 2 hd A l.length cap w5) ∧ V8 w5 V hd A l.length cap) from fun A4 cap4 w4 W hP hW hb => (pmade_any 3 o (some ⟨w4.heap.size, 0, none⟩) 2 2 W).mono (fun e w5 hE => by
          obtain ⟨rfl, hb5⟩ := hE
          exact ⟨rfl, made_two hP.out hW hb hb5⟩))
        clear hb hs3N d0 fd0 d1 fd1 d2 fd2 d3 fd3 d4 fd4 d5 fd5 d6 fd6 d7 fd7
        have d0 : (w2).cell? ⟨V, 0, none⟩ = some (.int .i64 hd.k) := (HV2.out).cell 0
        have d1 : (w2).cell? ⟨V, 1, none⟩ = some (.int .i64 hd.n) := (HV2.out).cell 1
        have d2 : (w2).cell? ⟨V, 2, none⟩ = some (.int .i64 hd.vk) := (HV2.out).cell 2
        have d3 : (w2).cell? ⟨V, 3, none⟩ = some (.int .i64 hd.vn) := (HV2.out).cell 3
        have d4 : (w2).cell? ⟨V, 4, none⟩ = some (.string hd.vs) := (HV2.out).cell 4
        have d5 : (w2).cell? ⟨V, 5, none⟩ = some (.string hd.tab) := (HV2.out).cell 5
        have d6 : (w2).cell? ⟨V, 6, none⟩ = some (.string hd.col) := (HV2.out).cell 6
        have d7 : (w2).cell? ⟨V, 7, none⟩ = some (.slice A l.length cap) := (HV2.out).cell 7
        have fd0 := (HV2.out).frozen 0
        have fd1 := (HV2.out).frozen 1
        have fd2 := (HV2.out).frozen 2
        have fd3 := (HV2.out).frozen 3
        have fd4 := (HV2.out).frozen 4
        have fd5 := (HV2.out).frozen 5
        have fd6 := (HV2.out).frozen 6
        have fd7 := (HV2.out).frozen 7
        go_wp2_with fail
        go_region_with (first
          | (refine (HPx.out _ (by repeat (first | exact Below.refl _ _ | refine Below.drew ?_))).mono ?_; rintro e w4 ⟨A4, cap4, rfl, HP4, d0, d1, d2, d3, d4, d5, d6, d7, fd0, fd1, fd2, fd3, fd4, fd5, fd6, fd7⟩)
          | (refine (HMd.out _ _ _ _ HP4 rfl (by repeat (first | exact Below.refl _ _ | refine Below.drew ?_ | refine Below.alloc ?_ (Nat.le_refl _) _))).mono ?_; rintro e w5 ⟨rfl, HP5, d0, d1, d2, d3, d4, d5, d6, d7, fd0, fd1, fd2, fd3, fd4, fd5, fd6, fd7⟩))
        all_goals
          have HSn := Lib.hid (RowS.step (part := part) (ops := ops) (N := N) (nn := nn) (n := 2) rfl (by have := HLs.out; have := HS.out.len; have := HLe4.out; omega) (by have := HLs.out; have := HS.out.most; have := HLe4.out; omega) HmU.out HUV.out (Nat.le_of_eq HUl.out) HP5.out.rs HP5.out.but HP5.out.bu HP5.out.ez HX2.out ((OnU.refl V w5).set.set.set.set.set.set.set.set) (box8_set HP5.out.bv _ _ _ _ _ _ _ _))
          go_wp2_with fail
          go_roundw
          case rel => exact ⟨_, _, _, _, _, HSn⟩
          case measure => rw [HSn.out.rs.len, HS.out.rs.len]; have := HLs.out; have := HLe4.out; omega
end Go.Proofs.YtfjimoccliejdaaGreatDoor
end
section
namespace Go.Proofs.YtfjimoccliejdaaGreatDoor
open Go.RowKit Go.Shelf

set_option maxRecDepth 100000 in
set_option maxHeartbeats 4000000 in
theorem row_prod (part : Pa.Ps → Ex × Pa.Ps) (hle : ∀ s, Pa.Fin s.ts → Pa.Le s (part s).2) (m N : Nat) (HP : Ok 161 part m N) (ops : List Nat) (hops : ∀ op ∈ ops, op < 17) (hnz : ∀ op ∈ ops, op ≠ 0) (hl : ops.length ≤ 100) (s : Pa.Ps) (g c : Nat) (w : World) (h : RS m w s) (hN : s.ts.length ≤ N) (hgm : m < g) (hO : ∀ (j op : Nat), ops[j]? = some op → w.cell? ⟨g, j, none⟩ = some (.int .i64 op)) :
    Calls Tryz.prog 60 #[.pointer (some ⟨m, 0, none⟩), .func (.func 161) #[.pointer (some ⟨m, 0, none⟩)] #[], .slice (some ⟨g, 0, none⟩) ops.length c] w (RuE exC m w (Pa.rowP part ops (part s).2.ts.length (part s).1 (part s).2).1 (Pa.rowP part ops (part s).2.ts.length (part s).1 (part s).2).2) := by
  have HPp := Lib.hid HP
  have HO := Lib.hid hO
  have HOps := Lib.hid (And.intro hops hnz)
  have Hle := Lib.hid hle
  clear HP hO hops hnz hle
  have HB := Lib.hid (ba w (.cells #[.int .i64 0, .int .i64 0, .int .i64 0, .int .i64 0, .string ⟨#[]⟩, .string ⟨#[]⟩, .string ⟨#[]⟩, .slice none 0 0] 37))
  have HU := Lib.hid (show BxU _ _ #[.int .i64 0, .int .i64 0, .int .i64 0, .int .i64 0, .string ⟨#[]⟩, .string ⟨#[]⟩, .string ⟨#[]⟩, .slice none 0 0] 37 from (MapKept.heap_alloc w (.cells #[.int .i64 0, .int .i64 0, .int .i64 0, .int .i64 0, .string ⟨#[]⟩, .string ⟨#[]⟩, .string ⟨#[]⟩, .slice none 0 0] 37)).1)
  have H1 := Lib.hid (h.next HB.out)
  have hmU := h.lt
  have HFin := Lib.hid h.fin
  obtain ⟨U, hU⟩ : ∃ U, w.heap.size = U := ⟨_, rfl⟩
  have HUl := Lib.hid hU
  rw [hU] at HU hmU
  have HmU := Lib.hid hmU
  obtain ⟨X, hX⟩ : ∃ X, Pa.rowP part ops (part s).2.ts.length (part s).1 (part s).2 = X := ⟨_, rfl⟩
  rw [hX]
  have HX := Lib.hid hX
  clear h hX hmU
  go_enter Tryz.func60, Tryz.ntmps60
  go_wp2_with fail
  generalize w.alloc (.cells #[.int .i64 0, .int .i64 0, .int .i64 0, .int .i64 0, .string ⟨#[]⟩, .string ⟨#[]⟩, .string ⟨#[]⟩, .slice none 0 0] 37) = W1 at HB HU H1 ⊢
  clear hU
  have HM1 := Lib.hid (show ButM m w W1 from ButM.of HB.out)
  have HT1 := Lib.hid (HPp.out s W1 H1.out hN)
  obtain ⟨⟨x1, s1⟩, hs1⟩ : ∃ q, part s = q := ⟨_, rfl⟩
  rw [hs1] at HT1
  have HK1 := Lib.hid hs1
  clear hs1
  simp only at HT1
  go_wp2_with fail
  refine HT1.out.mono ?_
  intro e v1 hE
  obtain ⟨A1, cap1, rfl, hC, hR, hM⟩ := RuE.ev hE
  clear hE
  have hs1 : s1.ts.length ≤ N := by have := (Hle.out s HFin.out).len; rw [HK1.out] at this; simp only at this; omega
  have HX1 := Lib.hid (show Pa.rowP part ops s1.ts.length x1 s1 = X by rw [← HX.out, HK1.out])
  obtain ⟨hd1, l1⟩ := x1
  simp only [Ex.hd, Ex.kids] at hC ⊢
  have hbv := ba v1 (xbox hd1 A1 l1.length cap1)
  have hVn := (MapKept.heap_alloc v1 (xbox hd1 A1 l1.length cap1)).1
  obtain ⟨V, hV⟩ : ∃ V, v1.heap.size = V := ⟨_, rfl⟩
  rw [hV] at hVn
  have hUW := HU.out.lt
  have hUV : U < V := by have := hM.size; omega
  have HS1 := Lib.hid (show RowS part ops m N U V w X (.mk hd1 l1) s1 s1.ts.length A1 cap1 (v1.alloc (xbox hd1 A1 l1.length cap1)) from ⟨Nat.le_refl _, hs1, hR.next hbv, (HM1.out.trans hM).trans (ButM.of hbv), (HU.out.but HmU.out hM).next hbv, hVn, exC_ok.go (fun k hk => hbv.block k hk.2) (fun k hk => ⟨by have := hk.1; omega, by have := hk.2; have := hbv.size; omega, by have := hk.2; omega⟩) hC, HX1.out⟩)
  have HV := Lib.hid hV
  have HUV := Lib.hid hUV
  clear hR hM hC hN hbv hVn hUW hs1 hUV
  go_wp2_with fail
  clear hV
  go_loopw [8] (fun _ W => ∃ (x : Ex) (s1 : Pa.Ps) (nn : Nat) (A : Option Addr) (cap : Nat), Hid (RowS part ops m N U V w X x s1 nn A cap W)) (fun _ W => lenR m W)
  case atStart => exact ⟨_, _, _, _, _, HS1⟩
  case round =>
    obtain ⟨x, s2, nn, A, cap, HS⟩ := hrel
    have hOw : ∀ (j op : Nat), ops[j]? = some op → wr.cell? ⟨g, j, none⟩ = some (.int .i64 op) := fun j op hj => HS.out.but.cell (Nat.ne_of_gt hgm) (HO.out j op hj)
    have HT := Lib.hid (oper_any m s2 ops g c wr HS.out.rs HOps.out.1 hOw hgm hl)
    obtain ⟨hle2, hnz2, hz2⟩ := Pa.operP_le ops HS.out.rs.fin HOps.out.2
    have hlt := operP_lt ops s2 HOps.out.1
    obtain ⟨o, ho⟩ : ∃ o, (Pa.operP ops s2).1 = o := ⟨_, rfl⟩
    obtain ⟨s3, hs3⟩ : ∃ s3, (Pa.operP ops s2).2 = s3 := ⟨_, rfl⟩
    rw [ho, hs3] at HT hnz2 hz2
    rw [ho] at hlt
    rw [hs3] at hle2
    have HK := Lib.hid (show Pa.operP ops s2 = (o, s3) by rw [← ho, ← hs3])
    have HLE := Lib.hid hle2
    have HNZ := Lib.hid hnz2
    have HZ := Lib.hid hz2
    clear hOw hle2 hnz2 hz2 ho hs3
    go_wp2_with fail
    refine HT.out.mono ?_
    rintro e w1 ⟨rfl, hR, hM⟩
    have HR1 := Lib.hid hR
    have HB1 := Lib.hid (HS.out.but.trans hM)
    have HU1 := Lib.hid (HS.out.bu.but HmU.out hM)
    have hmV : m < V := Nat.lt_trans HmU.out HUV.out
    have HV1 := Lib.hid (HS.out.bv.but hmV hM)
    have HE1 := Lib.hid (show exC (Bv U V w1.heap.size) w1 x (xcell (x.hd, A, x.kids.length, cap)) from exC_ok.go (fun k hk => hM.block k hk.2.1 (by have := hk.1; have := HmU.out; omega)) (fun k hk => ⟨hk.1, Nat.lt_of_lt_of_le hk.2.1 hM.size, hk.2.2⟩) HS.out.ex)
    have HmV := Lib.hid hmV
    have hUltV := HUV.out
    have hUneV : U ≠ V := Nat.ne_of_lt hUltV
    have hVneU : V ≠ U := Nat.ne_of_gt hUltV
    clear hR hM hmV hUltV
    obtain ⟨hd, l⟩ := x
    simp only [Ex.hd, Ex.kids] at HV1 HE1
    have d0 : (w1).cell? ⟨V, 0, none⟩ = some (.int .i64 hd.k) := (HV1.out).cell 0
    have d1 : (w1).cell? ⟨V, 1, none⟩ = some (.int .i64 hd.n) := (HV1.out).cell 1
    have d2 : (w1).cell? ⟨V, 2, none⟩ = some (.int .i64 hd.vk) := (HV1.out).cell 2
    have d3 : (w1).cell? ⟨V, 3, none⟩ = some (.int .i64 hd.vn) := (HV1.out).cell 3
    have d4 : (w1).cell? ⟨V, 4, none⟩ = some (.string hd.vs) := (HV1.out).cell 4
    have d5 : (w1).cell? ⟨V, 5, none⟩ = some (.string hd.tab) := (HV1.out).cell 5
    have d6 : (w1).cell? ⟨V, 6, none⟩ = some (.string hd.col) := (HV1.out).cell 6
    have d7 : (w1).cell? ⟨V, 7, none⟩ = some (.slice A l.length cap) := (HV1.out).cell 7
    have fd0 := (HV1.out).frozen 0
    have fd1 := (HV1.out).frozen 1
    have fd2 := (HV1.out).frozen 2
    have fd3 := (HV1.out).frozen 3
    have fd4 := (HV1.out).frozen 4
    have fd5 := (HV1.out).frozen 5
    have fd6 := (HV1.out).frozen 6
    have fd7 := (HV1.out).frozen 7
    by_cases hz : o = 0
    · subst hz
      obtain rfl := HZ.out rfl
      have HXe := Lib.hid (show X = (.mk hd l, s3) by rw [← HS.out.eq, Pa.rowP_stop (by rw [HK.out])])
      have c0 : (w1).cell? ⟨U, 0, none⟩ = some (.int .i64 0) := (HU1.out).cell 0
      have c1 : (w1).cell? ⟨U, 1, none⟩ = some (.int .i64 0) := (HU1.out).cell 1
      have c2 : (w1).cell? ⟨U, 2, none⟩ = some (.int .i64 0) := (HU1.out).cell 2
      have c3 : (w1).cell? ⟨U, 3, none⟩ = some (.int .i64 0) := (HU1.out).cell 3
      have c4 : (w1).cell? ⟨U, 4, none⟩ = some (.string ⟨#[]⟩) := (HU1.out).cell 4
      have c5 : (w1).cell? ⟨U, 5, none⟩ = some (.string ⟨#[]⟩) := (HU1.out).cell 5
      have c6 : (w1).cell? ⟨U, 6, none⟩ = some (.string ⟨#[]⟩) := (HU1.out).cell 6
      have c7 : (w1).cell? ⟨U, 7, none⟩ = some (.slice none 0 0) := (HU1.out).cell 7
      have fc0 := (HU1.out).frozen 0
      have fc1 := (HU1.out).frozen 1
      have fc2 := (HU1.out).frozen 2
      have fc3 := (HU1.out).frozen 3
      have fc4 := (HU1.out).frozen 4
      have fc5 := (HU1.out).frozen 5
      have fc6 := (HU1.out).frozen 6
      have fc7 := (HU1.out).frozen 7
      go_wp2_with fail
      exact bodyPost_ret (v := XV hd A l.length cap) (by simp [results, Tryz.results60, go_sem, c0, c1, c2, c3, c4, c5, c6, c7]) rfl (by rw [HXe.out]; exact RuE.fin (c := xcell (hd, A, l.length, cap)) exC_ok HUl.out HmU.out HB1.out HR1.out (exC_ok.go (fun _ _ => rfl) (fun k hk => ⟨hk.1, hk.2.1⟩) HE1.out) (OnU.refl _ _).set.set.set.set.set.set.set.set)
    · have hzI : ¬ ((o : Int) = 0) := by omega
      have har := isOne_ar hlt
      obtain ⟨nn, rfl⟩ : ∃ k, nn = k + 1 := ⟨nn - 1, by have := (HNZ.out hz).2; have := HS.out.len; omega⟩
      cases hone : Pa.isOne o with
      | true =>
        rw [if_pos hone] at har
        have HX2 := Lib.hid (show Pa.rowP part ops nn (Pa.mkOp o [.mk hd l]) s3 = X by rw [← HS.out.eq, rowP_one (by rw [HK.out]; exact hz) (by rw [HK.out]; exact hone), HK.out])
        have HLs := Lib.hid (show s3.ts.length + 1 ≤ s2.ts.length from (HNZ.out hz).2)
        have HAr := Lib.hid (ev_arity (n := (o : Int)) (w := w1) har)
        clear hone har hz
        go_wp2_with fail
        refine HAr.out.mono ?_
        rintro e w2 ⟨u, rfl, hb, rfl⟩
        have HR2 := Lib.hid (HR1.out.next hb)
        have HB2 := Lib.hid (HB1.out.trans (ButM.of hb))
        have HU2 := Lib.hid (HU1.out.next hb)
        have HV2 := Lib.hid (HV1.out.next hb)
        have HE2 := Lib.hid (show exC (Bv U V w2.heap.size) w2 (.mk hd l) (xcell (hd, A, l.length, cap)) from exC_ok.go (fun k hk => hb.block k hk.2.1) (fun k hk => ⟨hk.1, Nat.lt_of_lt_of_le hk.2.1 hb.size, hk.2.2⟩) HE1.out)
        clear hb d0 fd0 d1 fd1 d2 fd2 d3 fd3 d4 fd4 d5 fd5 d6 fd6 d7 fd7
        have d0 : (w2).cell? ⟨V, 0, none⟩ = some (.int .i64 hd.k) := (HV2.out).cell 0
        have d1 : (w2).cell? ⟨V, 1, none⟩ = some (.int .i64 hd.n) := (HV2.out).cell 1
        have d2 : (w2).cell? ⟨V, 2, none⟩ = some (.int .i64 hd.vk) := (HV2.out).cell 2
        have d3 : (w2).cell? ⟨V, 3, none⟩ = some (.int .i64 hd.vn) := (HV2.out).cell 3
        have d4 : (w2).cell? ⟨V, 4, none⟩ = some (.string hd.vs) := (HV2.out).cell 4
        have d5 : (w2).cell? ⟨V, 5, none⟩ = some (.string hd.tab) := (HV2.out).cell 5
        have d6 : (w2).cell? ⟨V, 6, none⟩ = some (.string hd.col) := (HV2.out).cell 6
        have d7 : (w2).cell? ⟨V, 7, none⟩ = some (.slice A l.length cap) := (HV2.out).cell 7
        have fd0 := (HV2.out).frozen 0
        have fd1 := (HV2.out).frozen 1
        have fd2 := (HV2.out).frozen 2
        have fd3 := (HV2.out).frozen 3
        have fd4 := (HV2.out).frozen 4
        have fd5 := (HV2.out).frozen 5
        have fd6 := (HV2.out).frozen 6
        have fd7 := (HV2.out).frozen 7
        have hE3 := exC_one (B' := Bv U V (w2.heap.size + 1)) (hdO (o : Int)) HE2.out (fun k hk => ⟨hk.2.1, hk.1, Nat.lt_succ_of_lt hk.2.1, hk.2.2⟩) ⟨HU2.out.lt, Nat.lt_succ_self _, Nat.ne_of_gt HV2.out.lt⟩ 37
        have hbx := ba w2 (xbox hd A l.length cap)
        have HE3 := Lib.hid hE3
        have HBx := Lib.hid hbx
        have HR3 := Lib.hid (HR2.out.next hbx)
        have HU3 := Lib.hid (HU2.out.next hbx)
        have HV3 := Lib.hid (HV2.out.next hbx)
        go_wp2_with fail
        refine (pmade_any 3 o (some ⟨w2.heap.size, 0, none⟩) 1 1 _).mono ?_
        rintro e w3 ⟨rfl, hb⟩
        have HR4 := Lib.hid (HR3.out.next hb)
        have HB4 := Lib.hid (HB2.out.trans ((ButM.of hbx).trans (ButM.of hb)))
        have HU4 := Lib.hid (HU3.out.next hb)
        have HV4 := Lib.hid (HV3.out.next hb)
        have HE4 := Lib.hid (show exC (Bv U V w3.heap.size) w3 (Pa.mkOp o [.mk hd l]) (xcell (hdO (o : Int), some ⟨w2.heap.size, 0, none⟩, 1, 1)) from exC_ok.go (fun k hk => hb.block k (by rw [World.size_alloc]; exact hk.2.1)) (fun k hk => ⟨hk.1, by have := hk.2.1; have := hb.size; rw [World.size_alloc] at this; omega, hk.2.2⟩) hE3)
        clear hb hbx hE3 d0 fd0 d1 fd1 d2 fd2 d3 fd3 d4 fd4 d5 fd5 d6 fd6 d7 fd7
        have d0 : (w3).cell? ⟨V, 0, none⟩ = some (.int .i64 hd.k) := (HV4.out).cell 0
        have d1 : (w3).cell? ⟨V, 1, none⟩ = some (.int .i64 hd.n) := (HV4.out).cell 1
        have d2 : (w3).cell? ⟨V, 2, none⟩ = some (.int .i64 hd.vk) := (HV4.out).cell 2
        have d3 : (w3).cell? ⟨V, 3, none⟩ = some (.int .i64 hd.vn) := (HV4.out).cell 3
        have d4 : (w3).cell? ⟨V, 4, none⟩ = some (.string hd.vs) := (HV4.out).cell 4
        have d5 : (w3).cell? ⟨V, 5, none⟩ = some (.string hd.tab) := (HV4.out).cell 5
        have d6 : (w3).cell? ⟨V, 6, none⟩ = some (.string hd.col) := (HV4.out).cell 6
        have d7 : (w3).cell? ⟨V, 7, none⟩ = some (.slice A l.length cap) := (HV4.out).cell 7
        have fd0 := (HV4.out).frozen 0
        have fd1 := (HV4.out).frozen 1
        have fd2 := (HV4.out).frozen 2
        have fd3 := (HV4.out).frozen 3
        have fd4 := (HV4.out).frozen 4
        have fd5 := (HV4.out).frozen 5
        have fd6 := (HV4.out).frozen 6
        have fd7 := (HV4.out).frozen 7
        have HSn := Lib.hid (RowS.step (part := part) (ops := ops) (N := N) (nn := nn) (n := 1) rfl (by have := HLs.out; have := HS.out.len; omega) (by have := HLs.out; have := HS.out.most; omega) HmU.out HUV.out (Nat.le_of_eq HUl.out) HR4.out HB4.out HU4.out HE4.out HX2.out ((OnU.refl V w3).set.set.set.set.set.set.set.set) (box8_set HV4.out _ _ _ _ _ _ _ _))
        go_wp2_with fail
        go_roundw
        case rel => exact ⟨_, _, _, _, _, HSn⟩
        case measure => rw [HSn.out.rs.len, HS.out.rs.len]; have := HLs.out; omega
      | false =>
        rw [if_neg (by simp [hone]), if_neg hz] at har
        have HLs := Lib.hid (show s3.ts.length + 1 ≤ s2.ts.length from (HNZ.out hz).2)
        have hs3N : s3.ts.length ≤ N := by have := HLs.out; have := HS.out.most; omega
        obtain ⟨⟨y, s4⟩, hy⟩ : ∃ q, part s3 = q := ⟨_, rfl⟩
        have HY := Lib.hid hy
        have HX2 := Lib.hid (show Pa.rowP part ops nn (Pa.mkOp o [.mk hd l, y]) s4 = X by rw [← HS.out.eq, rowP_two (by rw [HK.out]; exact hz) (by rw [HK.out]; exact hone), HK.out, HY.out])
        have HLe4 := Lib.hid (show s4.ts.length ≤ s3.ts.length by have := (Hle.out s3 HR1.out.fin).len; rw [HY.out] at this; exact this)
        have HAr := Lib.hid (ev_arity (n := (o : Int)) (w := w1) har)
        clear hone har hz hy
        go_wp2_with fail
        refine HAr.out.mono ?_
        rintro e w2 ⟨u, rfl, hb, rfl⟩
        have HR2 := Lib.hid (HR1.out.next hb)
        have HB2 := Lib.hid (HB1.out.trans (ButM.of hb))
        have HU2 := Lib.hid (HU1.out.next hb)
        have HV2 := Lib.hid (HV1.out.next hb)
        have HE2 := Lib.hid (show exC (Bv U V w2.heap.size) w2 (.mk hd l) (xcell (hd, A, l.length, cap)) from exC_ok.go (fun k hk => hb.block k hk.2.1) (fun k hk => ⟨hk.1, Nat.lt_of_lt_of_le hk.2.1 hb.size, hk.2.2⟩) HE1.out)
        have HPx := Lib.hid (show ∀ W, Below w2.heap.size w2 W → Calls Tryz.prog 161 #[.pointer (some ⟨m, 0, none⟩)] W (fun e w4 => ∃ A4 cap4, e = .returned (XV y.hd A4 y.kids.length cap4) ∧ Hid (PartS m N U V w (.mk hd l) hd A l.length cap y s4 A4 cap4 w4) ∧ V8 w4 V hd A l.length cap) from fun W hW => (HPp.out s3 W (HR2.out.next hW) hs3N).mono (fun e w4 hE => by
          rw [HY.out] at hE
          obtain ⟨A4, cap4, rfl, hC, hR, hM⟩ := RuE.ev hE
          have hV := (HV2.out.next hW).but HmV.out hM
          exact ⟨A4, cap4, rfl, Lib.hid ⟨hR, (HB2.out.trans (ButM.of hW)).trans hM, (HU2.out.next hW).but HmU.out hM, hV, exC_ok.go (fun k hk => (hM.block k (Nat.lt_of_lt_of_le hk.2.1 hW.size) (by have := hk.1; have := HmU.out; omega)).trans (hW.block k hk.2.1)) (fun k hk => ⟨hk.1, by have := hk.2.1; have := hW.size; have := hM.size; omega, hk.2.2⟩) HE2.out, exC_ok.go (fun _ _ => rfl) (fun k hk => ⟨by have := hk.1; have := hW.size; have := HU2.out.lt; omega, hk.2, by have := hk.1; have := hW.size; have := HV2.out.lt; omega⟩) hC⟩, v8_of hV⟩))
        have HMd := Lib.hid (show ∀ (A4 : Option Addr) (cap4 : Nat) (w4 W : World) (_ : Hid (PartS m N U V w (.mk hd l) hd A l.length cap y s4 A4 cap4 w4)) (_ : W.heap = (w4.alloc (.cells (xcell (hd, A, l.length, cap) ++ xcell (y.hd, A4, y.kids.length, cap4)).toArray 37)).heap) (_ : Below w4.heap.size w4 W),
            Calls Tryz.prog 112 #[.int .i64 3, .int .i64 o, .slice (some ⟨w4.heap.size, 0, none⟩) 2 2] W (fun e w5 => e = .returned (XV (hdO (o : Int)) (some ⟨w4.heap.size, 0, none⟩) 2 2) ∧ Hid (MadeS m U V w (Pa.mkOp o [.mk hd l, y]) (hdO (o : Int)) s4 (some ⟨w4.heap.size, 0, none⟩) 2 2 hd A l.length cap w5) ∧ V8 w5 V hd A l.length cap) from fun A4 cap4 w4 W hP hW hb => (pmade_any 3 o (some ⟨w4.heap.size, 0, none⟩) 2 2 W).mono (fun e w5 hE => by
          obtain ⟨rfl, hb5⟩ := hE
          exact ⟨rfl, made_two hP.out hW hb hb5⟩))
        clear hb hs3N d0 fd0 d1 fd1 d2 fd2 d3 fd3 d4 fd4 d5 fd5 d6 fd6 d7 fd7
        have d0 : (w2).cell? ⟨V, 0, none⟩ = some (.int .i64 hd.k) := (HV2.out).cell 0
        have d1 : (w2).cell? ⟨V, 1, none⟩ = some (.int .i64 hd.n) := (HV2.out).cell 1
        have d2 : (w2).cell? ⟨V, 2, none⟩ = some (.int .i64 hd.vk) := (HV2.out).cell 2
        have d3 : (w2).cell? ⟨V, 3, none⟩ = some (.int .i64 hd.vn) := (HV2.out).cell 3
        have d4 : (w2).cell? ⟨V, 4, none⟩ = some (.string hd.vs) := (HV2.out).cell 4
        have d5 : (w2).cell? ⟨V, 5, none⟩ = some (.string hd.tab) := (HV2.out).cell 5
        have d6 : (w2).cell? ⟨V, 6, none⟩ = some (.string hd.col) := (HV2.out).cell 6
        have d7 : (w2).cell? ⟨V, 7, none⟩ = some (.slice A l.length cap) := (HV2.out).cell 7
        have fd0 := (HV2.out).frozen 0
        have fd1 := (HV2.out).frozen 1
        have fd2 := (HV2.out).frozen 2
        have fd3 := (HV2.out).frozen 3
        have fd4 := (HV2.out).frozen 4
        have fd5 := (HV2.out).frozen 5
        have fd6 := (HV2.out).frozen 6
        have fd7 := (HV2.out).frozen 7
        go_wp2_with fail
        go_region_with (first
          | (refine (HPx.out _ (by repeat (first | exact Below.refl _ _ | refine Below.drew ?_))).mono ?_; rintro e w4 ⟨A4, cap4, rfl, HP4, d0, d1, d2, d3, d4, d5, d6, d7, fd0, fd1, fd2, fd3, fd4, fd5, fd6, fd7⟩)
          | (refine (HMd.out _ _ _ _ HP4 rfl (by repeat (first | exact Below.refl _ _ | refine Below.drew ?_ | refine Below.alloc ?_ (Nat.le_refl _) _))).mono ?_; rintro e w5 ⟨rfl, HP5, d0, d1, d2, d3, d4, d5, d6, d7, fd0, fd1, fd2, fd3, fd4, fd5, fd6, fd7⟩))
        all_goals
          have HSn := Lib.hid (RowS.step (part := part) (ops := ops) (N := N) (nn := nn) (n := 2) rfl (by have := HLs.out; have := HS.out.len; have := HLe4.out; omega) (by have := HLs.out; have := HS.out.most; have := HLe4.out; omega) HmU.out HUV.out (Nat.le_of_eq HUl.out) HP5.out.rs HP5.out.but HP5.out.bu HP5.out.ez HX2.out ((OnU.refl V w5).set.set.set.set.set.set.set.set) (box8_set HP5.out.bv _ _ _ _ _ _ _ _))
          go_wp2_with fail
          go_roundw
          case rel => exact ⟨_, _, _, _, _, HSn⟩
          case measure => rw [HSn.out.rs.len, HS.out.rs.len]; have := HLs.out; have := HLe4.out; omega
end Go.Proofs.YtfjimoccliejdaaGreatDoor
end
