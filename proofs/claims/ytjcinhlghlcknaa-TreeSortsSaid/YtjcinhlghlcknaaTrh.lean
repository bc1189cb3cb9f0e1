/-
  Package tree: the document's own Merge.
-/
import Derived.Test.YtjcinhlghlcknaaTrg
import Derived.BigQuiet
import Derived.Deep.QuietTactic
import Derived.Deep.RegionLaw
namespace Go.Proofs.Ytjcinhlghlcknaa
open Go.RowKit

def natsC (l : List Nat) : List Value := l.map fun (n : Nat) => Value.int .i64 (n : Int)
/-- What is left of each list, where so many have been taken. -/
structure Drp (ls : List (List Pr)) (ats : List Nat) (cur : List (List Pr)) : Prop where
  al : ats.length = ls.length
  cl : cur.length = ls.length
  at' : ∀ j, j < ls.length → cur.getD j [] = (ls.getD j []).drop (ats.getD j 0) ∧ ats.getD j 0 ≤ (ls.getD j []).length
theorem Drp.start (ls : List (List Pr)) : Drp ls (List.replicate ls.length 0) ls := by
  refine ⟨by simp, rfl, fun j hj => ?_⟩
  have e : (List.replicate ls.length 0).getD j 0 = 0 := by
    simp only [List.getD_eq_getElem?_getD, List.getElem?_replicate]
    split <;> rfl
  rw [e]; exact ⟨by simp, Nat.zero_le _⟩
theorem getN_set_self {l : List Nat} {i : Nat} (h : i < l.length) (v d : Nat) : (l.set i v).getD i d = v := by
  simp [List.getD_eq_getElem?_getD, h]
theorem getN_set_ne {l : List Nat} {i j : Nat} (h : i ≠ j) (v d : Nat) : (l.set i v).getD j d = l.getD j d := by
  simp [List.getD_eq_getElem?_getD, h]
theorem getP_set_self {l : List (List Pr)} {i : Nat} (h : i < l.length) (v : List Pr) : (l.set i v).getD i [] = v := by
  simp [List.getD_eq_getElem?_getD, h]
theorem getP_set_ne {l : List (List Pr)} {i j : Nat} (h : i ≠ j) (v : List Pr) : (l.set i v).getD j [] = l.getD j [] := by
  simp [List.getD_eq_getElem?_getD, h]
theorem Drp.next {ls : List (List Pr)} {ats : List Nat} {cur : List (List Pr)} (h : Drp ls ats cur) {k : Nat} (hk : k < ls.length) {p : Pr} {ps : List Pr} (hp : cur.getD k [] = p :: ps) : Drp ls (ats.set k (ats.getD k 0 + 1)) (cur.set k ps) := by
  refine ⟨by rw [List.length_set]; exact h.al, by rw [List.length_set]; exact h.cl, fun j hj => ?_⟩
  obtain ⟨h1, h2⟩ := h.at' j hj
  by_cases e : k = j
  · subst e
    rw [getN_set_self (by have := h.al; omega), getP_set_self (by have := h.cl; omega)]
    rw [hp] at h1
    refine ⟨by rw [← List.tail_drop, ← h1]; rfl, ?_⟩
    have : (p :: ps).length = ((ls.getD k []).drop (ats.getD k 0)).length := by rw [h1]
    simp only [List.length_cons, List.length_drop] at this; omega
  · rw [getN_set_ne e, getP_set_ne e]; exact ⟨h1, h2⟩
/-- The first of what is left, in the list itself. -/
theorem Drp.head {ls : List (List Pr)} {ats : List Nat} {cur : List (List Pr)} (h : Drp ls ats cur) {k : Nat} (hk : k < ls.length) {p : Pr} {ps : List Pr} (hp : cur.getD k [] = p :: ps) : ats.getD k 0 < (ls.getD k []).length ∧ (ls.getD k [])[ats.getD k 0]? = some p := by
  obtain ⟨h1, h2⟩ := h.at' k hk
  rw [hp] at h1
  have : (p :: ps).length = ((ls.getD k []).drop (ats.getD k 0)).length := by rw [h1]
  simp only [List.length_cons, List.length_drop] at this
  refine ⟨by omega, ?_⟩
  have h3 : ((ls.getD k []).drop (ats.getD k 0))[0]? = some p := by rw [← h1]; rfl
  simpa using h3
theorem Drp.none {ls : List (List Pr)} {ats : List Nat} {cur : List (List Pr)} (h : Drp ls ats cur) {k : Nat} (hk : k < ls.length) (hp : cur.getD k [] = []) : ats.getD k 0 = (ls.getD k []).length := by
  obtain ⟨h1, h2⟩ := h.at' k hk
  rw [hp] at h1
  have : (ls.getD k []).length - ats.getD k 0 = 0 := by
    have := congrArg List.length h1
    simp only [List.length_nil, List.length_drop] at this; omega
  omega
/-- The document's own merge in memory. -/
structure RmS (U : Nat) (w0 w : World) (A : Option Addr) (g : Nat) (ls : List (List Pr)) (ats : List Nat) (cur : List (List Pr)) (out : List Pr) (v : Value) : Prop where
  ls' : LsAt U w A ls
  drp : Drp ls ats cur
  mr : MR ls out cur
  box : w.heap[g]? = some (.cells (natsC ats).toArray 3 (0, 0))
  own : w.ownsRow U 28 2 v out.length (prC out)
  below : Below U w0 w
  lo : U ≤ g ∧ U ≤ w.heap.size
section
variable {U : Nat} {w0 w w' : World} {A : Option Addr} {g : Nat} {ls : List (List Pr)} {ats : List Nat} {cur : List (List Pr)} {out : List Pr} {v : Value}
theorem RmS.kept (h : RmS U w0 w A g ls ats cur out v) (hb : Below w.heap.size w w') : RmS U w0 w' A g ls ats cur out v :=
  ⟨h.ls'.kept (hb.mono h.lo.2), h.drp, h.mr, (hb.block g (block_ltT h.box)).trans h.box, own_sameT h.own (fun k hk => hb.block k (h.own.lt k hk).2), h.below.trans (hb.mono h.lo.2), h.lo.1, Nat.le_trans h.lo.2 hb.size⟩
theorem RmS.cell (h : RmS U w0 w A g ls ats cur out v) {i : Nat} (hi : i < ls.length) : w.cell? ⟨g, i, none⟩ = some (.int .i64 (ats.getD i 0 : Nat)) ∧ w.frozen? ⟨g, i, none⟩ = false := by
  have hl := h.drp.al
  refine ⟨?_, by simp [World.frozen?, h.box]⟩
  simp [World.cell?, h.box, natsC, List.getD_eq_getElem?_getD, List.getElem?_eq_getElem (show i < ats.length by omega)]
/-- One has been taken. -/
theorem RmS.next (h : RmS U w0 w A g ls ats cur out v) {k : Nat} {p : Pr} {ps : List Pr} (hk : isW (hds cur) 0 (hds cur).length (k : Int)) (hp : cur.getD k [] = p :: ps) {w4 : World} {v' : Value}
    (ho : w4.ownsRow U 28 2 v' (out.length + 1) (prC out ++ [.int .i64 p.k, .int .i64 p.t])) {w1 : World} (hb1 : Below w.heap.size w w1) (hg : w1.grownBy w4 v.ownBlock) :
    (w4.cell? ⟨g, k, none⟩ = some (.int .i64 (ats.getD k 0 : Nat)) ∧ w4.frozen? ⟨g, k, none⟩ = false) ∧
    RmS U w0 (w4.setCell ⟨g, k, none⟩ (.int .i64 (ats.getD k 0 + 1 : Nat))) A g ls (ats.set k (ats.getD k 0 + 1)) (cur.set k ps) (out ++ [p]) v' := by
  have h1 := h.kept hb1
  have hkl : k < ls.length := by have := hk.get.1; rw [hds_len, h.drp.cl] at this; exact this
  have hne : ∀ q, v.ownBlock = some q → q ≠ g := fun q hq e => by
    rcases h1.own.2 with ⟨hv, _⟩ | ⟨g', cap, c', hv, _, hgg, _⟩
    · rw [hv] at hq; cases hq
    · rw [hv] at hq
      simp [Value.ownBlock] at hq
      rw [hq, e, h1.box] at hgg; simp at hgg
  have hb4 : Below U w1 w4 := below_grownT h1.own h1.lo.2 hg
  have hbox : w4.heap[g]? = some (.cells (natsC ats).toArray 3 (0, 0)) := (hg.block g (block_ltT h1.box) (fun e => hne g e.symm rfl)).trans h1.box
  have hne' : ∀ q, v'.ownBlock = some q → g ≠ q := fun q hq e => by
    rcases ho.2 with ⟨hv, _⟩ | ⟨g', cap, c', hv, _, hgg, _⟩
    · rw [hv] at hq; cases hq
    · rw [hv] at hq
      simp [Value.ownBlock] at hq
      rw [hq, ← e, hbox] at hgg; simp at hgg
  have hso : ∀ q, g ≠ q → (w4.setCell ⟨g, k, none⟩ (.int .i64 (ats.getD k 0 + 1 : Nat))).heap[q]? = w4.heap[q]? := fun q hq => by simp [World.setCell, Array.getElem?_modify, hq]
  have hbs : Below U w4 (w4.setCell ⟨g, k, none⟩ (.int .i64 (ats.getD k 0 + 1 : Nat))) := (Below.refl U w4).setCell h.lo.1 _
  have hal := h.drp.al
  refine ⟨⟨?_, by simp [World.frozen?, hbox]⟩, ⟨(h1.ls'.kept hb4).kept hbs, h.drp.next hkl hp, h.mr.step hk hp, ?_, ?_, (h1.below.trans hb4).trans hbs, h.lo.1, ?_⟩⟩
  · simp [World.cell?, hbox, natsC, List.getD_eq_getElem?_getD, List.getElem?_eq_getElem (show k < ats.length by omega)]
  · simp only [World.setCell, Array.getElem?_modify, if_true, hbox]
    simp [natsC, List.map_set]
  · rw [List.length_append, List.length_singleton, prC_snoc]
    exact own_sameT ho (fun q hq => hso q (hne' q hq))
  · have := hb4.size; have := h1.lo.2
    simp [World.setCell]; omega
end
theorem len_le_tot {ls : List (List Pr)} {i : Nat} (hi : i < ls.length) : (ls.getD i []).length ≤ tot ls := by
  rw [List.getD_eq_getElem?_getD, List.getElem?_eq_getElem hi, Option.getD_some]
  have : ∀ (l : List (List Pr)) (r : List Pr), r ∈ l → r.length ≤ tot l := fun l => by
    induction l with
    | nil => intro r hr; cases hr
    | cons q l ih =>
      intro r hr
      simp only [tot, List.map_cons, List.sum_cons] at ih ⊢
      rcases List.mem_cons.1 hr with rfl | hr
      · omega
      · have := ih r hr; omega
  exact this ls _ (List.getElem_mem hi)
/-- The first of what is left, in memory. -/
theorem RmS.hd {U : Nat} {w0 w : World} {A : Option Addr} {g : Nat} {ls : List (List Pr)} {ats : List Nat} {cur : List (List Pr)} {out : List Pr} {v : Value} (h : RmS U w0 w A g ls ats cur out v) {k : Nat} (hk : k < ls.length) {p : Pr} {ps : List Pr} (hp : cur.getD k [] = p :: ps) {b off : Nat} (hA : A = some ⟨b, off, none⟩) :
    ∃ b' off' n c' : Nat, w.cell? ⟨b, off + k, none⟩ = some (.slice (some ⟨b', off', none⟩) n c') ∧ ats.getD k 0 < n ∧ n ≤ tot ls ∧ n ≤ c' ∧
      w.cell? ⟨b', off' + ats.getD k 0 * 2, none⟩ = some (.int .i64 p.k) ∧ w.cell? ⟨b', off' + ats.getD k 0 * 2 + 1, none⟩ = some (.int .i64 p.t) := by
  obtain ⟨b1, off1, A', c', e1, _, hc, hnc, hpa⟩ := h.ls'.at hk
  rw [hA] at e1
  simp only [Option.some.injEq, Addr.mk.injEq] at e1
  obtain ⟨rfl, rfl, _⟩ := e1
  obtain ⟨h1, h2⟩ := h.drp.head hk hp
  rcases hpa with hpa | ⟨b', off', rfl, _, _, hpa⟩
  · rw [hpa] at h1; simp at h1
  · obtain ⟨d1, d2⟩ := hpa _ _ h2
    exact ⟨b', off', _, c', hc, h1, len_le_tot hk, hnc, d1, d2⟩
theorem winN_no {L : List Lf} {i : Nat} (h : (L.getD i noLf).b = false) : winN L (i + 1) = winN L i := by
  unfold winN; simp only [h, Bool.false_and, Bool.false_eq_true, if_false]; cases i <;> rfl
theorem winN_first {L : List Lf} {i : Nat} (h : (L.getD i noLf).b = true) (hw : winN L i = -1) : winN L (i + 1) = i := by
  rw [winN, hw, h]; simp
theorem winN_less {L : List Lf} {i k : Nat} (h : (L.getD i noLf).b = true) (hw : winN L i = k) (hk : (L.getD i noLf).k < (L.getD k noLf).k) : winN L (i + 1) = i := by
  rw [winN, hw, h]; simp only [keyT, Int.toNat_natCast, hk, decide_true, Bool.or_true, Bool.and_true, if_true]
theorem winN_more {L : List Lf} {i k : Nat} (hw : winN L i = k) (hk : ¬ (L.getD i noLf).k < (L.getD k noLf).k) : winN L (i + 1) = k := by
  rw [winN, hw]; simp only [keyT, Int.toNat_natCast, hk, decide_false, Bool.or_false]
  rw [if_neg (by simp)]
theorem winN_range (L : List Lf) (i : Nat) : winN L i = -1 ∨ ∃ k : Nat, winN L i = k ∧ k < i ∧ (L.getD k noLf).b = true := by
  rcases winN_is L i with ⟨h, _⟩ | ⟨k, h, _, h2, h3, _⟩
  · exact .inl h
  · exact .inr ⟨k, h, h2, h3⟩
theorem make_nats (n : Nat) (hn : n ≤ 128) (w : World) : (Instr.makeSlice 57 (.int .i64 n) (.int .i64 n)).run Try.prog w =
    .ok (.slice (some ⟨w.heap.size, 0, none⟩) n n) (w.alloc (.cells (natsC (List.replicate n 0)).toArray 3)) := by
  have := make_wins n hn w
  rwa [show wnC (List.replicate n 0) = natsC (List.replicate n 0) by simp [wnC, natsC]] at this
/-- What the document's own Merge leaves. -/
def RMgE (w : World) (ls : List (List Pr)) (e : Ending) (w' : World) : Prop :=
  ∃ v out, e = .returned v ∧ Mgd ls out ∧ w'.ownsRow w.heap.size 28 2 v out.length (prC out) ∧ Below w.heap.size w w'
set_option maxRecDepth 100000 in
set_option maxHeartbeats 8000000 in
theorem rmerge_any {w : World} {A : Option Addr} {c : Nat} {ls : List (List Pr)} (h : LsAt w.heap.size w A ls) (h1 : 1 ≤ ls.length) (h2 : ls.length ≤ 64) (h3 : tot ls ≤ 100000) :
    Calls Try.prog 17 #[.slice A ls.length c] w (RMgE w ls) := by
  obtain ⟨N, hN⟩ : ∃ N, N = ls.length := ⟨_, rfl⟩
  have hmk := make_nats ls.length (by omega)
  have hb0 := ba w (.cells (natsC (List.replicate ls.length 0)).toArray 3)
  have HS0 := Lib.hid (show RmS w.heap.size w (w.alloc (.cells (natsC (List.replicate ls.length 0)).toArray 3)) A w.heap.size ls (List.replicate ls.length 0) ls [] (.slice none 0 0) from
    ⟨h.kept hb0, Drp.start ls, MR.start ls, (MapKept.heap_alloc w _).1, World.ownsRow_nil _ _ _ _, hb0, Nat.le_refl _, hb0.size⟩)
  rw [← hN] at hmk h1 h2 ⊢
  rw [← hN] at HS0
  have HN := Lib.hid hN
  have HT := Lib.hid h3
  obtain ⟨g, hg⟩ : ∃ g, g = w.heap.size := ⟨_, rfl⟩
  have HG := Lib.hid hg
  clear h hb0 hN h3 hg
  go_enter Try.func17, Try.ntmps17
  go_wp2_with fail
  generalize w.alloc (.cells (natsC (List.replicate N 0)).toArray 3) = w1 at HS0 ⊢
  obtain ⟨b, off, rfl⟩ : ∃ b off, A = some ⟨b, off, none⟩ := by
    obtain ⟨b, off, _, _, e, _⟩ := HS0.out.ls'.at (i := 0) (by have := HN.out; omega)
    exact ⟨b, off, e⟩
  obtain ⟨U, hU⟩ : ∃ U, U = w.heap.size := ⟨_, rfl⟩
  rw [← hU] at HS0 ⊢
  have HU := Lib.hid hU
  clear hU hmk HG g
  go_loopw [4] (fun oo wr => ∃ (ats : List Nat) (cur : List (List Pr)) (out : List Pr), Hid (RmS U w wr (some ⟨b, off, none⟩) U ls ats cur out oo)) (fun oo _ => tot ls - lenT oo)
  case atStart => exact ⟨_, _, _, HS0⟩
  case round =>
    clear HS0
    obtain ⟨ats, cur, out, HS⟩ := hrel
    obtain ⟨wo, rfl⟩ : ∃ wo : World, wo = wr := ⟨_, rfl⟩
    go_wp2_with fail
    go_loopw [5, 6] (fun bb ii wr => ∃ i : Nat, ii = .int .i64 i ∧ i ≤ N ∧ bb = .int .i64 (winN (hds cur) i) ∧ Hid (Below wo.heap.size wo wr)) (fun _ ii _ => N - (intOf ii).toNat)
    case atStart => exact ⟨0, rfl, Nat.zero_le _, rfl, Lib.hid (Below.refl _ _)⟩
    case round =>
      obtain ⟨i, rfl, hi, rfl, HB⟩ := hrel
      by_cases hlt : i < N
      · have hil : i < ls.length := by have := HN.out; omega
        have HSr := Lib.hid (HS.out.kept HB.out)
        have hti := HT.out
        have hltI : (i : Int) < (N : Int) := by omega
        have ci := (HSr.out.cell hil).1
        cases hcur : cur.getD i [] with
        | nil =>
          have HW := Lib.hid (winN_no (L := hds cur) (i := i) (by rw [hds_get, hcur]; rfl))
          have ha := HSr.out.drp.none hil hcur
          obtain ⟨b1, off1, A', c', e1, _, hc, _, _⟩ := HSr.out.ls'.at hil
          simp only [Option.some.injEq, Addr.mk.injEq] at e1
          obtain ⟨rfl, rfl, _⟩ := e1
          rw [← ha] at hc
          have hnn := len_le_tot hil
          rw [← ha] at hnn
          generalize ats.getD i 0 = x at ci hc hnn
          have hxx : decide ((x : Int) < (x : Int)) = false := by simp
          clear ha hcur hil
          go_wp2_with fail
          go_quiet (fail)
          go_wp2_with fail
          go_roundw
          case rel => exact ⟨i + 1, by go_num, hlt, by rw [HW.out], Lib.hid (bt HB.out (drNT _ _))⟩
          case measure => simp [intOf]; omega
        | cons p ps =>
          have hbi : ((hds cur).getD i noLf).b = true := by rw [hds_get, hcur]; rfl
          have hki : ((hds cur).getD i noLf).k = p.k := by rw [hds_get, hcur]; rfl
          obtain ⟨b', off', n, c', d0, d1, d2, d3, d4, d5⟩ := HSr.out.hd hil hcur rfl
          rcases winN_range (hds cur) i with hw | ⟨k, hw, hk, hkb⟩
          · have HW := Lib.hid (winN_first hbi hw)
            generalize ats.getD i 0 = x at ci d1 d4 d5
            rw [hw]
            clear hcur hil hbi hki hw
            go_wp2_with fail
            go_quiet (fail)
            go_wp2_with fail
            go_roundw
            case rel => exact ⟨i + 1, by go_num, hlt, by rw [HW.out], Lib.hid (bt HB.out (drNT _ _))⟩
            case measure => simp [intOf]; omega
          · have hkl : k < ls.length := by omega
            rw [hds_get] at hkb
            obtain ⟨q, qs, hq⟩ := hdL_b hkb
            have hkk : ((hds cur).getD k noLf).k = q.k := by rw [hds_get, hq]; rfl
            obtain ⟨b2, off2, n2, c2, f0, f1, f2, f3, f4, f5⟩ := HSr.out.hd hkl hq rfl
            have ck := (HSr.out.cell hkl).1
            have hkN : k < N := by omega
            have hkI : (k : Int) < (N : Int) := by omega
            by_cases hlss : p.k < q.k
            · have HW := Lib.hid (winN_less hbi hw (by rw [hki, hkk]; exact hlss))
              generalize ats.getD i 0 = x at ci d1 d4 d5
              generalize ats.getD k 0 = y at ck f1 f4 f5
              have hx1 : (x : Int) < (n : Int) := by omega
              have hy1 : (y : Int) < (n2 : Int) := by omega
              rw [hw]
              clear hcur hil hbi hki hw hkl hkb hq hkk
              go_wp2_with fail
              go_quiet (fail)
              go_wp2_with fail
              go_roundw
              case rel => exact ⟨i + 1, by go_num, hlt, by rw [HW.out], Lib.hid (bt HB.out (drNT _ _))⟩
              case measure => simp [intOf]; omega
            · have HW := Lib.hid (winN_more hw (by rw [hki, hkk]; exact hlss))
              generalize ats.getD i 0 = x at ci d1 d4 d5
              generalize ats.getD k 0 = y at ck f1 f4 f5
              have hx1 : (x : Int) < (n : Int) := by omega
              have hy1 : (y : Int) < (n2 : Int) := by omega
              rw [hw]
              clear hcur hil hbi hki hw hkl hkb hq hkk
              go_wp2_with fail
              go_quiet (fail)
              go_wp2_with fail
              go_roundw
              case rel => exact ⟨i + 1, by go_num, hlt, by rw [HW.out], Lib.hid (bt HB.out (drNT _ _))⟩
              case measure => simp [intOf]; omega
      · obtain rfl : N = i := by omega
        have HSr := Lib.hid (HS.out.kept HB.out)
        have hlen : (hds cur).length = N := by rw [hds_len, HS.out.drp.cl, HN.out]
        have hwn : isW (hds cur) 0 (hds cur).length (winN (hds cur) N) := by rw [hlen]; exact winN_is _ _
        rcases winN_range (hds cur) N with hw | ⟨k, hw, hk, hkb⟩
        · rw [hw] at hwn ⊢
          have HE := Lib.hid (show Mgd ls out from ⟨cur, HS.out.mr, tot_nil hwn⟩)
          clear hwn hlen hw
          go_wp2_with fail
          go_ret
          exact ⟨_, out, rfl, HE.out, by rw [← HU.out]; exact HSr.out.own, by rw [← HU.out]; exact HSr.out.below⟩
        · rw [hw] at hwn ⊢
          rw [hds_get] at hkb
          obtain ⟨p, ps, hp⟩ := hdL_b hkb
          have hkl : k < ls.length := by have := HN.out; omega
          obtain ⟨b2, off2, n2, c2, f0, f1, f2, f3, f4, f5⟩ := HSr.out.hd hkl hp rfl
          obtain ⟨ck, cf⟩ := HSr.out.cell hkl
          have hot : out.length < tot ls := by
            have e1 := HS.out.mr.tot
            have e2 := tot_set hp
            omega
          have HW := Lib.hid (fun (w4 : World) (v' : Value) ho hg => HSr.out.next (w4 := w4) (v' := v') (w1 := wr.alloc (.cells #[.int .i64 p.k, .int .i64 p.t] 28)) hwn hp ho (ba _ _) hg)
          have HOa := Lib.hid (show ((wr.alloc (.cells #[.int .i64 p.k, .int .i64 p.t] 28)).drew).ownsRow U 28 2 _ out.length (prC out) from own_sameT (HSr.out.own.alloc _) (fun _ _ => rfl))
          have HL := Lib.hid (lenT_own HSr.out.own)
          have HNb := Lib.hid (World.news_of_block (w := (wr.alloc (.cells #[.int .i64 p.k, .int .i64 p.t] 28)).drew) (B := wr.heap.size) (cs := #[.int .i64 p.k, .int .i64 p.t]) (t := 28) (fr := (0, 0)) (MapKept.heap_alloc wr _).1)
          have hUl := HSr.out.lo.2
          have htt := HT.out
          obtain ⟨K, hK⟩ : ∃ K, K = out.length := ⟨_, rfl⟩
          rw [← hK] at HOa hot HL HW
          have HK := Lib.hid hK
          obtain ⟨i0, hi0, hz0, hz1, hz2⟩ := info_parts info_pairT
          have HA := Lib.hid (show ats.getD k 0 < n2 ∧ n2 ≤ tot ls from ⟨f1, f2⟩)
          generalize ats.getD k 0 = y at ck f1 f4 f5 HW HA
          have hy1 : (y : Int) < (n2 : Int) := by omega
          have hkI : (k : Int) < (N : Int) := by omega
          clear hkb hp hkl hK hwn hlen hw
          go_upto_region 11 with fail
          go_region_law (refine step_append_lies _ (by rfl) (.tmp 59) (.tmp 70) 42 (by rfl) U 28 i0 _ 2 16 Try.underlying42 hi0 hz0 hz1 hz2 rfl (by decide) _ K (prC out) (by rfl) (by exact HOa.out) ⟨wr.heap.size, 0, none⟩ 1 1 [.int .i64 p.k, .int .i64 p.t] (by rfl) rfl (by exact HNb.out) (by intro u hu; simp at hu; rcases hu with rfl | rfl <;> rfl) (by decide) (by simp [maxLen]; omega) (by omega) (by simp; omega) _ rfl ?_; intro g4 cap4 w4 hown4 hgrow4 _ _)
          all_goals
            obtain ⟨⟨cy, fy⟩, hs4⟩ := HW.out w4 _ hown4 ⟨hgrow4.os, hgrow4.tape, hgrow4.output, hgrow4.size, hgrow4.block⟩
            rw [show ((y + 1 : Nat) : Int) = (y : Int) + 1 by omega] at hs4
            have HS4 := Lib.hid hs4
            have hyb : y < n2 := HA.out.1
            have hyc : n2 ≤ 100000 := by have := HA.out.2; omega
            clear hown4 hgrow4 hs4
            go_wp2_with fail
            go_roundw
            case rel => exact ⟨_, _, _, HS4⟩
            case measure =>
              have e2 := HL.out
              rw [e2]
              show tot ls - (K + 1) < tot ls - K
              omega
end Go.Proofs.Ytjcinhlghlcknaa
