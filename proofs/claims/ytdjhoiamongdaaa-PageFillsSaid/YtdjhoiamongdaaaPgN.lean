/-
  The contract of the document's own Make.
-/
import Derived.Test.YtdjhoiamongdaaaPgU
import Derived.Test.YtdjhoiamongdaaaRGrw
import Derived.Test.YtdjhoiamongdaaaPgE
import Derived.Test.YtdjhoiamongdaaaLst
import Derived.Deep.RegionHeld3
namespace Go.Proofs.Ytdjhoiamongdaaa
open Go.RowKit Go.Shelf

theorem info_int : (Try.prog.info? 3).map (fun i => (i.zero, i.size, i.bytes)) = some (some (.int .i64 0), 1, 8) := by kernel_rfl
/-- Ints of the call's own. -/
def OwnI (w : World) (B : Nat) (v : Value) (l : List Int) : Prop := w.ownsRow B 3 1 v l.length (l.map (Value.int .i64))
theorem OwnI.nil (w : World) (B : Nat) : OwnI w B (.slice none 0 0) [] := World.ownsRow_nil _ _ _ _
theorem OwnI.kept {w w' : World} {B : Nat} {v : Value} {l : List Int} (h : OwnI w B v l) (hb : Below w.heap.size w w') : OwnI w' B v l := owns_same h (fun k hk => hb.block k (h.lt k hk).2)
theorem Buf.kept' {w w' : World} {B g cap N : Nat} {l : List Int} (h : Buf w B g cap N l) (hb : Below w.heap.size w w') : Buf w' B g cap N l := ⟨h.len, owns_same h.own (fun k hk => hb.block k (h.own.lt k hk).2)⟩
/-- An append to ints leaves bytes as they were, and the other way round. -/
theorem Buf.far {w w' : World} {B B' g cap N : Nat} {l ss : List Int} {v : Value} (h : Buf w B g cap N l) (hi : OwnI w B' v ss) (hg : w.grownBy w' v.ownBlock) : Buf w' B g cap N l := by
  refine ⟨h.len, owns_same h.own (fun k hk => ?_)⟩
  obtain ⟨_, cs, fr, hcs⟩ := owns_typed h.own k hk
  refine hg.block k (lt_of_block hcs) (fun e => ?_)
  obtain ⟨_, cs', fr', hcs'⟩ := owns_typed hi k e.symm
  rw [hcs] at hcs'
  cases hcs'
theorem OwnI.far {w w' : World} {B B' g cap N : Nat} {l ss : List Int} {v : Value} (h : OwnI w B' v ss) (hi : Buf w B g cap N l) (hg : w.grownBy w' (some g)) : OwnI w' B' v ss := by
  refine owns_same h (fun k hk => ?_)
  obtain ⟨_, cs, fr, hcs⟩ := owns_typed h k hk
  refine hg.block k (lt_of_block hcs) (fun e => ?_)
  obtain ⟨_, cs', fr', hcs'⟩ := owns_typed hi.own k (by rw [e]; rfl)
  rw [hcs] at hcs'
  cases hcs'
theorem OwnI.cell {w : World} {B : Nat} {v : Value} {l : List Int} (h : OwnI w B v l) (h0 : 0 < l.length) : ∃ g cap, v = .slice (some ⟨g, 0, none⟩) l.length cap ∧ ∀ i : Nat, i < l.length → w.cell? ⟨g, i, none⟩ = some (.int .i64 (l.getD i 0)) := by
  rcases h.2 with ⟨_, hn⟩ | ⟨g, cap, cur, hv, hb, hg, h1, _, h2, ht⟩
  · omega
  · refine ⟨g, cap, hv, fun i hi => ?_⟩
    have : (cur.toList.take (l.length * 1))[i]? = (l.map (Value.int .i64))[i]? := by rw [ht]
    rw [List.getElem?_take_of_lt (by omega), Array.getElem?_toList] at this
    simp [World.cell?, hg, this, List.getD, hi]

theorem run_pushI (ty : TypeId) (B : Nat) (v : Value) (l : List Int) (x : Int) (W : World) (nb : Nat) (hv : OwnI W B v l) (hnb : W.heap[nb]? = some (.cells #[.int .i64 x] 3 (0, 0))) (hB : B ≤ W.heap.size) (hl : l.length ≤ 65536) :
    ∃ v' w', (Builtin.append_ #[54, 54] ty #[v, .slice (some ⟨nb, 0, none⟩) 1 1]).run Try.prog W = .ok v' w' ∧ OwnI w' B v' (l ++ [x]) ∧ W.grownBy w' v.ownBlock := by
  obtain ⟨i0, hi, hz0, hz1, hz2⟩ := info_parts info_int
  obtain ⟨g, cap, w', h, hown', hgr, hat, hlt⟩ := run_append_lies (P := Try.prog) W 54 ty B 3 i0 _ 1 8 Try.underlying54 hi hz0 hz1 hz2 rfl (by decide) v l.length (l.map (Value.int .i64)) hv ⟨nb, 0, none⟩ 1 1 [.int .i64 x] rfl (World.news_of_block hnb) (by simp [Value.oneCell']) (by omega) (by simp [maxLen]; omega) (by omega) hB _ rfl
  exact ⟨_, w', h, by unfold OwnI; simpa using hown', hgr⟩
theorem wpList_pushI {ops : Array Oper} {rest : List Oper} {o : Oper} {a : Act} {Q : Exit → Act → World → Prop} (hgd : o.guard = none) (s x : Operand)
    (ho : o.op = .call { callee := .builtin .append, args := #[s, x], argTypes := #[54, 54] }) (B : Nat) (v : Value) (l : List Int) (y : Int) (W : World) (nb : Nat) (hs : a.eval s = v) (hx : a.eval x = .slice (some ⟨nb, 0, none⟩) 1 1) (hv : OwnI W B v l) (hnb : W.heap[nb]? = some (.cells #[.int .i64 y] 3 (0, 0))) (hB : B ≤ W.heap.size) (hl : l.length ≤ 65536)
    (h : ∀ v' w', OwnI w' B v' (l ++ [y]) → W.grownBy w' v.ownBlock → wpList Try.prog ops Q rest (a.put o.dst v') w') :
    wpList Try.prog ops Q (o :: rest) a W := by
  refine wpList_plain hgd fun K hK => ?_
  obtain ⟨v', w', hr', h2, h3⟩ := run_pushI o.type B v l y W nb hv hnb hB hl
  unfold Oper.wp execOp
  simp only [ho, resolve, invoke, builtin, Sem.run_bind, Sem.run_pure, Result.andThen_ok, List.map_toArray, List.map_cons, List.map_nil, hs, hx, hr']
  exact hK _ _ (h v' w' h2 h3)

theorem run_appO (ty : TypeId) (B g cap N : Nat) (l0 : List Int) (A : Option Addr) (L c : Nat) (l : List Int) (W : World) (hbuf : Buf W B g cap N l0) (hr : BytesAt W A l) (hL : l.length = L) (h0 : 0 < L) (hl : N + L ≤ 10000000) (hB : B ≤ W.heap.size) :
    ∃ g' cap' w', (Builtin.append_ #[25, 25] ty #[.slice (some ⟨g, 0, none⟩) N cap, .slice A L c]).run Try.prog W = .ok (.slice (some ⟨g', 0, none⟩) (N + L) cap') w' ∧ Buf w' B g' cap' (N + L) (l0 ++ l) ∧ W.grownBy w' (some g) := by
  obtain ⟨i0, hi, hz0, hz1, hz2⟩ := info_parts info_byte
  subst hL
  rcases hr.1 with h1 | ⟨ba, off, rfl, hlt, hc⟩
  · simp at h1; subst h1; simp at h0
  · obtain ⟨g', cap', w', h, hown, hg, hat, _⟩ := run_append_lies (P := Try.prog) W 25 ty B 5 i0 _ 1 1 Try.underlying25 hi hz0 hz1 hz2 rfl (by decide) _ N (l0.map (Value.int .u8)) hbuf.own ⟨ba, off, none⟩ l.length c (l.map (Value.int .u8)) (by simp) (news_of_bytes hr) (by intro u hu; obtain ⟨x, _, rfl⟩ := List.mem_map.1 hu; rfl) h0 (by simp [maxLen]; omega) (by omega) hB _ rfl
    exact ⟨g', cap', w', h, ⟨by simp [hbuf.len], by simpa using hown⟩, hg⟩
theorem wpList_appO {ops : Array Oper} {rest : List Oper} {o : Oper} {a : Act} {Q : Exit → Act → World → Prop} (hgd : o.guard = none) (s x : Operand)
    (ho : o.op = .call { callee := .builtin .append, args := #[s, x], argTypes := #[25, 25] }) (B g cap N : Nat) (l0 : List Int) (A : Option Addr) (L c : Nat) (l : List Int) (W : World) (hs : a.eval s = .slice (some ⟨g, 0, none⟩) N cap) (hx : a.eval x = .slice A L c) (hbuf : Buf W B g cap N l0) (hr : BytesAt W A l) (hL : l.length = L) (h0 : 0 < L) (hl : N + L ≤ 10000000) (hB : B ≤ W.heap.size)
    (h : ∀ g' cap' w', Buf w' B g' cap' (N + L) (l0 ++ l) → W.grownBy w' (some g) → wpList Try.prog ops Q rest (a.put o.dst (.slice (some ⟨g', 0, none⟩) (N + L) cap')) w') :
    wpList Try.prog ops Q (o :: rest) a W := by
  refine wpList_plain hgd fun K hK => ?_
  obtain ⟨g', cap', w', hr', h2, h3⟩ := run_appO o.type B g cap N l0 A L c l W hbuf hr hL h0 hl hB
  unfold Oper.wp execOp
  simp only [ho, resolve, invoke, builtin, Sem.run_bind, Sem.run_pure, Result.andThen_ok, List.map_toArray, List.map_cons, List.map_nil, hs, hx, hr']
  exact hK _ _ (h g' cap' w' h2 h3)
theorem step_appO {ops : Array Oper} {o : Oper} {a : Act} {K : Act → World → Prop} {Q : Exit → Act → World → Prop} {E : Prop} (hgd : o.guard = none) (s x : Operand)
    (ho : o.op = .call { callee := .builtin .append, args := #[s, x], argTypes := #[25, 25] }) (B g cap N : Nat) (l0 : List Int) (A : Option Addr) (L c : Nat) (l : List Int) (W : World) (hs : a.eval s = .slice (some ⟨g, 0, none⟩) N cap) (hx : a.eval x = .slice A L c) (hbuf : Buf W B g cap N l0) (hr : BytesAt W A l) (hL : l.length = L) (h0 : 0 < L) (hl : N + L ≤ 10000000) (hB : B ≤ W.heap.size)
    (h : ∀ g' cap' w', Buf w' B g' cap' (N + L) (l0 ++ l) → W.grownBy w' (some g) → K (a.put o.dst (.slice (some ⟨g', 0, none⟩) (N + L) cap')) w') :
    if Region.wanted o (yielded ops a.tmps) = true then Oper.wp Try.prog o a W K Q else E := by
  have hw : Region.wanted o (yielded ops a.tmps) = true := by simp [Region.wanted, hgd]
  rw [if_pos hw]
  obtain ⟨g', cap', w', hr', h2, h3⟩ := run_appO o.type B g cap N l0 A L c l W hbuf hr hL h0 hl hB
  unfold Oper.wp execOp
  simp only [ho, resolve, invoke, builtin, Sem.run_bind, Sem.run_pure, Result.andThen_ok, List.map_toArray, List.map_cons, List.map_nil, hs, hx, hr']
  exact h g' cap' w' h2 h3
theorem below_appO {w W w' : World} {B g cap N : Nat} {l : List Int} (h : Below B w W) (hbuf : Buf W B g cap N l) (hB : B ≤ W.heap.size) (hg : W.grownBy w' (some g)) : Below B w w' :=
  h.grown hg hB (fun k hk => by cases hk; exact hbuf.lt.1)
theorem below_pushI {w W w' : World} {B : Nat} {v : Value} {l : List Int} (h : Below B w W) (hi : OwnI W B v l) (hB : B ≤ W.heap.size) (hg : W.grownBy w' v.ownBlock) : Below B w w' :=
  h.grown hg hB (fun k hk => (owns_typed hi k hk).1)
theorem bytes_new (w : World) (n : Nat) (hn : w.heap.size = n) (l : List Int) (hl : ∀ x ∈ l, 0 ≤ x ∧ x < 256) : BytesAt (w.alloc (.cells (byteC l) 5)) (some ⟨n, 0, none⟩) l := by
  subst hn; exact (OwnB.new w l).bytes hl

def startsI (rs : List (List Va)) : List Int := (starts 1 rs).map (fun n : Nat => (n : Int))
theorem startsI_succ (rs : List (List Va)) (j : Nat) (h : j < rs.length) : startsI (rs.take (j + 1)) = startsI (rs.take j) ++ [((1 + lenP (rs.take j) : Nat) : Int)] := by
  unfold startsI
  rw [List.take_succ_eq_append_getElem h, starts_snoc, List.map_append]
  rfl
theorem bodyP_succ (rs : List (List Va)) (j : Nat) (h : j < rs.length) : bodyP (rs.take (j + 1)) = bodyP (rs.take j) ++ putR rs[j] := by
  rw [List.take_succ_eq_append_getElem h, bodyP_snoc]
theorem startsI_len (rs : List (List Va)) : (startsI rs).length = rs.length := by simp [startsI, starts_len]
end Go.Proofs.Ytdjhoiamongdaaa
