/-
  The contract of draft.put.
-/
import Derived.Test.YtdjhoiamongdaaaPgE
import Derived.BigRegion
import Derived.Laws.CopyOwn
import Derived.Deep.RegionLawGrows
namespace Go.Proofs.Ytdjhoiamongdaaa
open Go.RowKit Go.Shelf

theorem int_one (l : List Int) : ∀ v ∈ l.map (Value.int .u8), v.oneCell' = true := by
  intro v hv
  obtain ⟨x, _, rfl⟩ := List.mem_map.1 hv
  rfl
/-- copy of bytes into a page of the call's own. -/
theorem step_copyB {ops : Array Oper} {o : Oper} {a : Act} {W : World} {K : Act → World → Prop} {Q : Exit → Act → World → Prop} {E : Prop} (hgd : o.guard = none) (d s : Operand)
    (ho : o.op = .call { callee := .builtin .copy, args := #[d, s], argTypes := #[25, 25] }) (g e m A L c : _) (bs b : List Int)
    (hd : a.eval d = .slice (some ⟨g, e, none⟩) m m) (hs : a.eval s = .slice A L c) (hg : OwnB W g bs) (hb : BytesAt W A b) (hL : b.length = L) (h0 : 0 < L) (hm : L ≤ m) (hfit : e + L ≤ bs.length)
    (h : K (a.put o.dst (.int .i64 (L : Int))) (W.setRow g (byteC (splice bs e b)))) :
    if Region.wanted o (yielded ops a.tmps) = true then Oper.wp Try.prog o a W K Q else E := by
  have hw : Region.wanted o (yielded ops a.tmps) = true := by simp [Region.wanted, hgd]
  rw [if_pos hw]
  obtain ⟨i0, hi, hz0, hz1, hz2⟩ := info_parts info_byte
  rcases hb.1 with h1 | ⟨ba, off, rfl, hlt, hc⟩
  · simp at h1; subst h1; simp at hL; omega
  · have hrun := run_copy_row (P := Try.prog) W 25 25 o.type 5 g e m m ⟨ba, off, none⟩ L c (byteC bs) 5 (b.map (Value.int .u8)) Try.underlying25 (by rw [hi]; simp [hz1]) hg
      (by rw [List.length_map, hL]; exact (Nat.min_eq_left hm).symm) (fun j v hv => by rw [← hc j v hv]; cases j <;> simp [Addr.add]) (by simp [byteC, hL]; omega) (int_one b)
    have e1 : ((byteC bs).toList.take e ++ b.map (Value.int .u8) ++ (byteC bs).toList.drop (e + (b.map (Value.int .u8)).length)).toArray = byteC (splice bs e b) := by
      simp [byteC, splice, List.map_take, List.map_drop]
    rw [e1, List.length_map, hL] at hrun
    unfold Oper.wp execOp
    simp only [ho, resolve, invoke, builtin, Sem.run_bind, Sem.run_pure, Result.andThen_ok, List.map_toArray, List.map_cons, List.map_nil, hd, hs, hrun]
    exact h

/-- All but two blocks is as it was. -/
structure Aside (g d : Nat) (w w' : World) : Prop where
  os : w'.os = w.os
  tape : w'.tape = w.tape
  output : w'.output = w.output
  size : w'.heap.size = w.heap.size
  block : ∀ k, k ≠ g → k ≠ d → w'.heap[k]? = w.heap[k]?
theorem setCell_other (w : World) (g o k : Nat) (v : Value) (h : k ≠ g) : (w.setCell ⟨g, o, none⟩ v).heap[k]? = w.heap[k]? := by
  simp [World.setCell, Array.getElem?_modify, Ne.symm h]
theorem BytesAt.else {w w' : World} {A : Option Addr} {b : List Int} {g : Nat} (h : BytesAt w A b) (hA : ∀ a, A = some a → a.block ≠ g) (hs : w'.heap.size = w.heap.size) (hk : ∀ k, k ≠ g → w'.heap[k]? = w.heap[k]?) : BytesAt w' A b := by
  refine ⟨?_, h.2⟩
  rcases h.1 with h0 | ⟨ba, off, rfl, hlt, hc⟩
  · exact .inl h0
  · refine .inr ⟨ba, off, rfl, by omega, fun i v hv => ?_⟩
    have := hc i v hv
    rw [← this]
    simp [World.cell?, hk ba (hA _ rfl)]

set_option maxHeartbeats 1000000 in
theorem put_any (d g : Nat) (e : Nat) (bs : List Int) (A : Option Addr) (b : List Int) (L c : Nat) (n : Nat) (w : World) (hd : DraftAt w d g e) (hb : OwnB w g bs) (hl : bs.length = 256) (hn : bs.getD 0 0 = n) (h0 : n < 127)
    (hA : BytesAt w A b) (hAg : ∀ a, A = some a → a.block ≠ g) (hL : b.length = L) (hL0 : 0 < L) (he : 1 ≤ e) (hfit : e + L ≤ 254 - 2 * n) (hdg : d ≠ g) :
    Calls Try.prog 65 #[.pointer (some ⟨d, 0, none⟩), .slice A L c] w fun r w' => r = .returned (.tuple #[]) ∧ OwnB w' g (putB bs n e b) ∧ DraftAt w' d g ((e + L : Nat) : Int) ∧ Aside g d w w' := by
  have HC := Lib.hid (count_any d g e bs w hd hb hl (by omega))
  rw [hn] at HC
  have d0 : w.cell? ⟨d, 0, none⟩ = some (.slice (some ⟨g, 0, none⟩) 256 256) := by unfold DraftAt at hd; simp [World.cell?, hd]
  have d1 : w.cell? ⟨d, 1, none⟩ = some (.int .i64 e) := by unfold DraftAt at hd; simp [World.cell?, hd]
  obtain ⟨x0, hx0⟩ : ∃ x, w.cell? ⟨g, 254 - 2 * n, none⟩ = some (.int .u8 x) := ⟨_, hb.at (by omega)⟩
  obtain ⟨x1, hx1⟩ : ∃ x, w.cell? ⟨g, 254 - 2 * n + 1, none⟩ = some (.int .u8 x) := ⟨_, hb.at (by omega)⟩
  have f0 := hb.free (254 - 2 * n)
  have f1 := hb.free (254 - 2 * n + 1)
  have HD := Lib.hid hd
  have HB := Lib.hid hb
  have HA := Lib.hid hA
  have HG := Lib.hid hAg
  have HN := Lib.hid hn
  have HL := Lib.hid hL
  have HH := Lib.hid hl
  clear hd hb hA hn hL hAg hl
  have hgd : g ≠ d := fun hh => hdg hh.symm
  obtain ⟨at0, hat⟩ : ∃ a : Nat, a = 254 - 2 * n := ⟨_, rfl⟩
  have hat2 : (256 - 2 * ((n : Int) + 1)) = (at0 : Int) := by omega
  have hat3 : at0 ≤ 254 := by omega
  have hat4 : 2 ≤ at0 := by omega
  have hfit' : e + L ≤ at0 := by omega
  rw [← hat] at hx0 hx1 f0 f1
  have v1 : IntKind.u8.wrap ((e : Int) / 256) = (e : Int) / 256 := by unfold IntKind.wrap; simp [IntKind.signed, IntKind.bits]; omega
  have v2 : IntKind.u8.wrap (e : Int) = (e : Int) % 256 := by unfold IntKind.wrap; simp [IntKind.signed, IntKind.bits]
  have HP := Lib.hid (show putB bs n e b = (splice ((bs.set at0 ((e : Int) / 256)).set (at0 + 1) ((e : Int) % 256)) e b).set 0 ((n : Int) + 1) by
    unfold putB
    rw [← hat, show 255 - 2 * n = at0 + 1 by omega, show (((n + 1) % 256 : Nat) : Int) = (n : Int) + 1 by omega, show ((e / 256 : Nat) : Int) = (e : Int) / 256 by omega, show ((e % 256 : Nat) : Int) = (e : Int) % 256 by omega])
  go_enter Try.func65, Try.ntmps65
  go_wp2_with fail
  refine HC.out.mono ?_
  rintro r w1 ⟨rfl, rfl⟩
  go_wp2_with fail
  refine (placeAt_any n _ (by omega) (by omega)).mono ?_
  rintro r w1 ⟨rfl, rfl⟩
  rw [hat2]
  clear HC hat hat2
  go_wp2_with fail
  go_region
  have HB1 := Lib.hid (show OwnB ((w.setCell ⟨g, at0, none⟩ (.int .u8 ((e : Int) / 256))).setCell ⟨g, at0 + 1, none⟩ (.int .u8 ((e : Int) % 256))).drew g _ from (HB.out.put at0 ((e : Int) / 256)).put (at0 + 1) ((e : Int) % 256))
  have HK1 := Lib.hid (show ∀ k, k ≠ g → ((w.setCell ⟨g, at0, none⟩ (.int .u8 ((e : Int) / 256))).setCell ⟨g, at0 + 1, none⟩ (.int .u8 ((e : Int) % 256))).drew.heap[k]? = w.heap[k]? from
    fun k hk => (setCell_other _ g (at0 + 1) k _ hk).trans (setCell_other _ g at0 k _ hk))
  have HS1 := Lib.hid (show ((w.setCell ⟨g, at0, none⟩ (.int .u8 ((e : Int) / 256))).setCell ⟨g, at0 + 1, none⟩ (.int .u8 ((e : Int) % 256))).drew.heap.size = w.heap.size by simp [World.setCell])
  have HO1 := Lib.hid (show Aside g d w ((w.setCell ⟨g, at0, none⟩ (.int .u8 ((e : Int) / 256))).setCell ⟨g, at0 + 1, none⟩ (.int .u8 ((e : Int) % 256))).drew from ⟨rfl, rfl, rfl, HS1.out, fun k hk _ => HK1.out k hk⟩)
  have HX := Lib.hid (show ((bs.set at0 ((e : Int) / 256)).set (at0 + 1) ((e : Int) % 256)).length = 256 by simp [HH.out])
  have HY := Lib.hid (show ((bs.set at0 ((e : Int) / 256)).set (at0 + 1) ((e : Int) % 256)).getD 0 0 = n by
    rw [← HN.out]
    simp [List.getD, show ¬ (at0 = 0) by omega])
  generalize ((w.setCell ⟨g, at0, none⟩ (.int .u8 ((e : Int) / 256))).setCell ⟨g, at0 + 1, none⟩ (.int .u8 ((e : Int) % 256))).drew = W1 at HB1 HK1 HS1 HO1 ⊢
  generalize (bs.set at0 ((e : Int) / 256)).set (at0 + 1) ((e : Int) % 256) = bs1 at HB1 HP HX HY
  have HA1 := Lib.hid (HA.out.else HG.out HS1.out HK1.out)
  have HD1 := Lib.hid (show DraftAt W1 d g e from (HK1.out d hdg).trans HD.out)
  clear d0 d1 hx0 hx1 f0 f1 HB HA HD v1 v2 HN HH
  have d0 : W1.cell? ⟨d, 0, none⟩ = some (.slice (some ⟨g, 0, none⟩) 256 256) := by have hd := HD1.out; unfold DraftAt at hd; simp [World.cell?, hd]
  have d1 : W1.cell? ⟨d, 1, none⟩ = some (.int .i64 e) := by have hd := HD1.out; unfold DraftAt at hd; simp [World.cell?, hd]
  have hsl := run_cut3 (some ⟨g, 0, none⟩) 256 256 e at0 (by omega) (by omega)
  rw [show adv (some ⟨g, 0, none⟩) at0 e = some ⟨g, e, none⟩ by unfold adv; rw [if_neg (by omega)]; simp [Addr.add]; omega] at hsl
  go_wp2_with fail
  go_region_law (refine step_copyB (by rfl) _ _ (by rfl) g e (at0 - e) A L c bs1 b (by rfl) (by rfl) HB1.out HA1.out HL.out hL0 (by omega) (by rw [HX.out]; omega) ?_)
  all_goals
    have HB2 := Lib.hid (show OwnB (W1.drew.setRow g (byteC (splice bs1 e b))) g (splice bs1 e b) from setRow_heap W1.drew g _ _ _ _ HB1.out)
    have HK2 := Lib.hid (show ∀ k, k ≠ g → (W1.drew.setRow g (byteC (splice bs1 e b))).heap[k]? = W1.heap[k]? from fun k hk => setRow_other W1.drew g k _ hk)
    have HO2 := Lib.hid (show Aside g d w (W1.drew.setRow g (byteC (splice bs1 e b))) from ⟨HO1.out.os, HO1.out.tape, HO1.out.output, by rw [← HO1.out.size]; simp [World.setRow], fun k h1 h2 => (HK2.out k h1).trans (HO1.out.block k h1 h2)⟩)
    generalize W1.drew.setRow g (byteC (splice bs1 e b)) = W2 at HB2 HK2 HO2 ⊢
    have HD2 := Lib.hid (show DraftAt W2 d g e from (HK2.out d hdg).trans HD1.out)
    clear d0 d1 hsl
    have d0 : W2.cell? ⟨d, 0, none⟩ = some (.slice (some ⟨g, 0, none⟩) 256 256) := by have hd := HD2.out; unfold DraftAt at hd; simp [World.cell?, hd]
    have d1 : W2.cell? ⟨d, 1, none⟩ = some (.int .i64 e) := by have hd := HD2.out; unfold DraftAt at hd; simp [World.cell?, hd]
    have f0 := HB2.out.free 0
    have fd : W2.frozen? ⟨d, 1, none⟩ = false := by have hd := HD2.out; unfold DraftAt at hd; simp [World.frozen?, hd]
    have c0 : W2.cell? ⟨g, 0, none⟩ = some (.int .u8 n) := by
      rw [HB2.out.cellAt, ← HY.out]
      have := HX.out
      obtain ⟨y, ys, rfl⟩ : ∃ y ys, bs1 = y :: ys := by cases bs1 with | nil => simp at this | cons y ys => exact ⟨y, ys, rfl⟩
      obtain ⟨e', rfl⟩ : ∃ e', e = e' + 1 := ⟨e - 1, by omega⟩
      simp [splice, List.getD]
    have v3 : IntKind.u8.wrap ((n : Int) + 1) = (n : Int) + 1 := by unfold IntKind.wrap; simp [IntKind.signed, IntKind.bits]; omega
    go_wp2_with fail
    go_end0
    refine ⟨rfl, ?_, ?_, ?_⟩
    · rw [HP.out]
      exact (setCell_other _ d 1 g _ hgd).trans (HB2.out.put 0 ((n : Int) + 1))
    · have hd := HD2.out
      unfold DraftAt at hd ⊢
      have hd' : (W2.setCell ⟨g, 0, none⟩ (.int .u8 ((n : Int) + 1))).heap[d]? = _ := (setCell_other W2 g 0 d _ hdg).trans hd
      simp only [World.setCell] at hd' ⊢
      simp only [Array.getElem?_modify, if_true] at hd' ⊢
      rw [hd']
      simp
    · exact ⟨HO2.out.os, HO2.out.tape, HO2.out.output, by rw [← HO2.out.size]; simp [World.setCell], fun k h1 h2 => ((setCell_other _ d 1 k _ h2).trans (setCell_other _ g 0 k _ h1)).trans (HO2.out.block k h1 h2)⟩
end Go.Proofs.Ytdjhoiamongdaaa
