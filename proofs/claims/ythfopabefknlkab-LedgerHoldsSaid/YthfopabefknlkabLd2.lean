/-
  Package ledger: a ledger in memory; contracts of closed and account.
-/
import Derived.Test.YthfopabefknlkabLd1
namespace Go.Proofs.Ythfopabefknlkab
open Go.RowKit Go.Maps

def AcAt (w : World) (a : Ac) : Prop := w.heap[a.b]? = some (.cells #[.int .i64 a.u, .int .i64 a.g, .int .i64 a.h, .int .i64 a.p] 65 (0, 0))
/-- A ledger. -/
structure LedAt (w : World) (l m : Nat) (L : List Ac) (last most : Int) : Prop where
  box : w.heap[l]? = some (.cells #[.map (some m), .int .i64 last, .int .i64 most] 68 (0, 0))
  map : MapOf w m L
  acs : ∀ a ∈ L, AcAt w a
  nums : (L.map Ac.n).Nodup
  blks : (L.map Ac.b).Nodup
theorem block_lt {w : World} {k : Nat} {o : Obj} (h : w.heap[k]? = some o) : k < w.heap.size := by
  rcases Nat.lt_or_ge k w.heap.size with hl | hg
  · exact hl
  · rw [Array.getElem?_eq_none hg] at h; cases h
section
variable {w w' : World} {l m : Nat} {L : List Ac} {last most : Int}
theorem LedAt.kept (h : LedAt w l m L last most) (hb : Below w.heap.size w w') : LedAt w' l m L last most :=
  ⟨(hb.block l (block_lt h.box)).trans h.box, h.map.kept (hb.block m h.map.lt), fun a ha => (hb.block a.b (block_lt (h.acs a ha))).trans (h.acs a ha), h.nums, h.blks⟩
theorem LedAt.c0 (h : LedAt w l m L last most) : w.cell? ⟨l, 0, none⟩ = some (.map (some m)) := by simp [World.cell?, h.box]
theorem LedAt.c1 (h : LedAt w l m L last most) : w.cell? ⟨l, 1, none⟩ = some (.int .i64 last) := by simp [World.cell?, h.box]
theorem LedAt.c2 (h : LedAt w l m L last most) : w.cell? ⟨l, 2, none⟩ = some (.int .i64 most) := by simp [World.cell?, h.box]
theorem acOf_mem {n : Int} {a : Ac} (ha : acOf L n = some a) : a ∈ L ∧ a.n = n := by
  unfold acOf at ha
  exact ⟨List.mem_of_find?_eq_some ha, by simpa using List.find?_some ha⟩
end

set_option maxRecDepth 100000 in
set_option maxHeartbeats 400000 in
theorem closed_no (l m : Nat) (w : World) (c0 : w.cell? ⟨l, 0, none⟩ = some (.map (some m))) :
    Calls Try.prog 35 #[.pointer (some ⟨l, 0, none⟩)] w fun e w' => e = .returned (.bool false) ∧ w = w' := by
  have qm := run_eql_map_nil (P := Try.prog) w 66 _ _ (some m) Try.underlying66
  go_enter Try.func35, Try.ntmps35
  go_wp2_with fail
  go_ret
  exact ⟨by simp, rfl⟩
set_option maxRecDepth 100000 in
set_option maxHeartbeats 400000 in
theorem closed_nil (w : World) :
    Calls Try.prog 35 #[.pointer none] w fun e w' => e = .returned (.bool true) ∧ w = w' := by
  go_enter Try.func35, Try.ntmps35
  go_wp2_with fail
  go_ret
  exact ⟨by simp, rfl⟩
/-- What account answers. -/
def acV (o : Option Ac) : Value := match o with
  | some a => .tuple #[.agg #[.int .i64 a.u, .int .i64 a.g, .int .i64 a.h, .int .i64 a.p], .bool true]
  | none => .tuple #[.agg #[.int .i64 0, .int .i64 0, .int .i64 0, .int .i64 0], .bool false]
set_option maxRecDepth 100000 in
set_option maxHeartbeats 1000000 in
theorem account_any (l m : Nat) (L : List Ac) (last most n : Int) (w : World) (h : LedAt w l m L last most) (hw : (Lit.int .i64 n).wf = true) :
    Calls Try.prog 36 #[.pointer (some ⟨l, 0, none⟩), .int .i64 n] w fun e w' => e = .returned (acV (acOf L n)) ∧ Below w.heap.size w w' := by
  have hk := h.kept (ba w (.cells #[.int .i64 0, .int .i64 0, .int .i64 0, .int .i64 0] 65))
  have c0 := hk.c0
  have hlk := hk.map.look hw
  have HC := Lib.hid (closed_no l m _ c0)
  have hltl := block_lt h.box
  cases ha : acOf L n with
  | none =>
    rw [ha] at hlk
    simp only at hlk
    clear h hk ha hw
    go_enter Try.func36, Try.ntmps36
    go_wp2_with fail
    refine HC.out.mono ?_
    rintro e w1 ⟨rfl, rfl⟩
    go_wp2_with fail
    refine bodyPost_ret (v := .tuple #[.agg #[.int .i64 0, .int .i64 0, .int .i64 0, .int .i64 0], .bool false]) (by simp [results, Try.results36, go_sem]) rfl ⟨rfl, ?_⟩
    exact ba w _
  | some a =>
    rw [ha] at hlk
    simp only at hlk
    obtain ⟨hmem, _⟩ := acOf_mem ha
    have hb := hk.acs a hmem
    have hba : a.b < w.heap.size := block_lt (h.acs a hmem)
    unfold AcAt at hb
    have x0 : (w.alloc (.cells #[.int .i64 0, .int .i64 0, .int .i64 0, .int .i64 0] 65)).cell? ⟨a.b, 0, none⟩ = some (.int .i64 a.u) := by simp only [World.cell?, hb]; rfl
    have x1 : (w.alloc (.cells #[.int .i64 0, .int .i64 0, .int .i64 0, .int .i64 0] 65)).cell? ⟨a.b, 1, none⟩ = some (.int .i64 a.g) := by simp only [World.cell?, hb]; rfl
    have x2 : (w.alloc (.cells #[.int .i64 0, .int .i64 0, .int .i64 0, .int .i64 0] 65)).cell? ⟨a.b, 2, none⟩ = some (.int .i64 a.h) := by simp only [World.cell?, hb]; rfl
    have x3 : (w.alloc (.cells #[.int .i64 0, .int .i64 0, .int .i64 0, .int .i64 0] 65)).cell? ⟨a.b, 3, none⟩ = some (.int .i64 a.p) := by simp only [World.cell?, hb]; rfl
    clear h hk ha hw hb
    go_enter Try.func36, Try.ntmps36
    go_wp2_with fail
    refine HC.out.mono ?_
    rintro e w1 ⟨rfl, rfl⟩
    go_wp2_with fail
    refine bodyPost_ret (v := .tuple #[.agg #[.int .i64 a.u, .int .i64 a.g, .int .i64 a.h, .int .i64 a.p], .bool true]) (by simp [results, Try.results36, go_sem]) rfl ⟨rfl, ?_⟩
    exact ba w _
set_option maxRecDepth 100000 in
set_option maxHeartbeats 1000000 in
theorem account_nil (n : Int) (w : World) :
    Calls Try.prog 36 #[.pointer none, .int .i64 n] w fun e w' => e = .returned (.tuple #[.agg #[.int .i64 0, .int .i64 0, .int .i64 0, .int .i64 0], .bool false]) ∧ Below w.heap.size w w' := by
  have HC := Lib.hid (closed_nil (w.alloc (.cells #[.int .i64 0, .int .i64 0, .int .i64 0, .int .i64 0] 65)))
  go_enter Try.func36, Try.ntmps36
  go_wp2_with fail
  refine HC.out.mono ?_
  rintro e w1 ⟨rfl, rfl⟩
  go_wp2_with fail
  refine bodyPost_ret (v := .tuple #[.agg #[.int .i64 0, .int .i64 0, .int .i64 0, .int .i64 0], .bool false]) (by simp [results, Try.results36, go_sem]) rfl ⟨rfl, ?_⟩
  exact ba w _
end Go.Proofs.Ythfopabefknlkab
