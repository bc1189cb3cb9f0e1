/-
  Package ledger: each with Accounts' closure: the list of the numbers, in any order.
-/
import Derived.Test.YthfopabefknlkabLde
import Derived.Deep.CutRange
namespace Go.Proofs.Ythfopabefknlkab
open Go.RowKit Go.Maps

/-- The numbers that are behind. -/
def seen (L : List Ac) (left : Int → Bool) : List Int := (L.filter fun a => !left a.n).map Ac.n
theorem seen_start (L : List Ac) : seen L (fun n => (acOf L n).isSome) = [] := by
  unfold seen
  have : L.filter (fun a => !(acOf L a.n).isSome) = [] := by
    rw [List.filter_eq_nil_iff]
    intro a ha
    have : (acOf L a.n).isSome = true := by
      unfold acOf
      rw [List.find?_isSome]
      exact ⟨a, ha, by simp⟩
    simp [this]
  rw [this]; rfl
theorem seen_end (L : List Ac) (left : Int → Bool) (h : ∀ n, left n = false) : seen L left = L.map Ac.n := by
  unfold seen
  rw [List.filter_eq_self.2 (fun a _ => by simp [h])]
theorem seen_le (L : List Ac) (left : Int → Bool) : (seen L left).length ≤ L.length := by
  unfold seen
  rw [List.length_map]
  exact List.length_filter_le _ _
theorem seen_other (L : List Ac) (left : Int → Bool) (n : Int) (hn : n ∉ L.map Ac.n) : seen L (fun k => left k && k != n) = seen L left := by
  unfold seen
  congr 1
  apply List.filter_congr
  intro a ha
  have : (a.n != n) = true := by
    rw [bne_iff_ne]
    intro e
    exact hn (e ▸ List.mem_map_of_mem ha)
  simp [this]
theorem seen_cons (a : Ac) (L : List Ac) (left : Int → Bool) : seen (a :: L) left = (if left a.n then [] else [a.n]) ++ seen L left := by
  unfold seen
  cases h : left a.n <;> simp [h]
theorem seen_step (L : List Ac) (left : Int → Bool) (x : Ac) (hx : acOf L x.n = some x) (hl : left x.n = true) (hnd : (L.map Ac.n).Nodup) : (seen L (fun k => left k && k != x.n)).Perm (seen L left ++ [x.n]) := by
  induction L with
  | nil => cases hx
  | cons a L ih =>
    rw [List.map_cons, List.nodup_cons] at hnd
    unfold acOf at hx
    rw [seen_cons, seen_cons]
    by_cases e : a.n = x.n
    · rw [List.find?_cons_of_pos (by simp [e])] at hx
      cases hx
      rw [seen_other L left x.n hnd.1, hl]
      simp
      exact (List.perm_append_singleton x.n (seen L left)).symm
    · rw [List.find?_cons_of_neg (by simp [e])] at hx
      have e3 : (a.n != x.n) = true := by rw [bne_iff_ne]; exact e
      rw [e3, Bool.and_true, List.append_assoc]
      exact (ih hx hnd.2).append_left _
theorem LedAt.aloofL {w w' : World} {l m bc : Nat} {L : List Ac} {last most : Int} {v : Value} (h : LedAt w l m L last most) (hc : w.heap[bc]? = some (.cells #[v] 34 (0, 0))) (ha : Aloof bc bc w w') : LedAt w' l m L last most := by
  have hb := h.box
  have e1 : l ≠ bc := fun e => by subst e; rw [hb] at hc; cases hc
  have hm := h.map
  obtain ⟨D, ⟨es, clock, hmb, _⟩, _⟩ := id hm
  have e3 : m ≠ bc := fun e => by subst e; rw [hmb] at hc; cases hc
  refine ⟨(ha.block l (block_lt hb) e1 e1).trans hb, hm.kept (ha.block m hm.lt e3 e3), fun a hal => ?_, h.nums, h.blks⟩
  have hab := h.acs a hal
  unfold AcAt at hab ⊢
  have e5 : a.b ≠ bc := fun e => by rw [e, hc] at hab; cases hab
  exact (ha.block a.b (block_lt hab) e5 e5).trans hab
theorem Apart.below {c base B : Nat} {w w' : World} (h : Apart c base w w') (hc : B ≤ c) (hb : B ≤ base) (hs : B ≤ w.heap.size) : Below B w w' :=
  ⟨h.os, h.tape, h.output, h.size, fun k hk => h.block k (by omega) (by omega) (by omega)⟩

set_option maxRecDepth 100000 in
set_option maxHeartbeats 2000000 in
theorem eachA_any (l m : Nat) (L : List Ac) (last most : Int) (bc : Nat) (w : World) (h : LedAt w l m L last most) (hs : Sane L) (hc : w.heap[bc]? = some (.cells #[.slice none 0 0] 34 (0, 0))) :
    Calls Try.prog 38 #[.pointer (some ⟨l, 0, none⟩), .func (.func 39) #[] #[.pointer (some ⟨bc, 0, none⟩)]] w fun e w' => e = .returned (.tuple #[]) ∧ (∃ base xs, w.heap.size ≤ base ∧ BoxL w' bc base xs ∧ xs.Perm (L.map Ac.n)) ∧ Aloof bc bc w w' := by
  have c0 := h.c0
  have HC := Lib.hid (closed_no l m w c0)
  have HL := Lib.hid h
  have HS := Lib.hid hs
  have HBc := Lib.hid hc
  clear h hs hc
  go_enter Try.func38, Try.ntmps38
  go_wp2_with fail
  refine HC.out.mono ?_
  rintro e w1 ⟨rfl, rfl⟩
  go_wp2_with (at_range; refine wpList_rangeA rfl _ rfl m L w rfl HL.out.map ?_; intro w0 hrg0 hg0 hs0)
  go_frame
  have HR0 := Lib.hid hrg0
  have HA0 := Lib.hid (show Aloof bc bc w w0 from ⟨hg0.os, hg0.tape, hg0.output, hg0.size, fun k hk _ _ => hg0.block k hk (by simp)⟩)
  have lc := block_lt HBc.out
  obtain ⟨R, hR⟩ : ∃ R, R = w.heap.size := ⟨_, rfl⟩
  have HC0 := Lib.hid (show BoxL w0 bc (R + 1) [] from ⟨by omega, by omega, _, (hg0.block bc lc (by simp)).trans HBc.out, World.ownsRow_nil _ _ _ _⟩)
  rw [← hR] at HR0 ⊢
  have HRr := Lib.hid hR
  have HLc := Lib.hid lc
  clear hrg0 hg0 hs0 hR c0 lc
  go_loopw [4] (fun _ wr => ∃ (left : Int → Bool) (cnt : Nat) (xs : List Int), Hid (RangeOf wr m R L left cnt) ∧ Hid (xs.Perm (seen L left)) ∧ Hid (BoxL wr bc (R + 1) xs) ∧ Hid (Aloof bc bc w wr)) (fun _ wr => wr.rangeLeft m R)
  case atStart => exact ⟨_, _, [], HR0, Lib.hid (by rw [seen_start]), HC0, HA0⟩
  case round =>
    obtain ⟨left, cnt, xs, HR, HCe, HBc1, HA⟩ := hrel
    clear HR0 HC0 HA0
    go_wp2_with (at_next; refine wpList_nextA rfl _ rfl m R L left cnt _ rfl HR.out ?_ ?_)
    · intro hl0
      have hc1 := HCe.out
      rw [seen_end _ _ hl0] at hc1
      have HX := Lib.hid hc1
      clear hc1 hl0
      go_wp2_with fail
      go_end0
      exact ⟨rfl, ⟨R + 1, xs, by have := HRr.out; omega, HBc1.out, HX.out⟩, HA.out⟩
    · intro x w1 cnt1 hx hlx hrg1 hlt1 hg1 hs1 hen
      obtain ⟨hxm, _⟩ := acOf_mem hx
      have hlen := HS.out.len
      have HCn := Lib.hid (show (xs ++ [x.n]).Perm (seen L fun k => left k && k != x.n) from (HCe.out.append_right [x.n]).trans (seen_step L left x hx hlx HL.out.nums).symm)
      have hxl : xs.length ≤ L.length := by rw [HCe.out.length_eq]; exact seen_le _ _
      have hRs := HRr.out
      have hwr := HA.out.size
      have hlc := HLc.out
      have HA1 := Lib.hid (show Aloof bc bc w w1 from ⟨hg1.os.trans HA.out.os, hg1.tape.trans HA.out.tape, hg1.output.trans HA.out.output, Nat.le_trans HA.out.size hg1.size, fun k hk hb hc => (hg1.block k (by omega) (by simp; omega)).trans (HA.out.block k hk hb hc)⟩)
      have HBc2 := Lib.hid (show BoxL w1 bc (R + 1) xs from by
        obtain ⟨b1, b2, v, b3, b4⟩ := HBc1.out
        refine ⟨b1, by omega, v, (hg1.block bc (by omega) (by simp; omega)).trans b3, b4.kept hg1 ?_⟩
        cases hv : v.ownBlock with
        | none => exact .inl rfl
        | some g => exact .inr (by have := (b4.lt g hv).1; simp; omega))
      have HL1 := Lib.hid (HL.out.aloofL HBc.out HA1.out)
      have hab := HL1.out.acs x hxm
      unfold AcAt at hab
      have x0 : w1.cell? ⟨x.b, 0, none⟩ = some (.int .i64 x.u) := by simp only [World.cell?, hab]; rfl
      have x1 : w1.cell? ⟨x.b, 1, none⟩ = some (.int .i64 x.g) := by simp only [World.cell?, hab]; rfl
      have x2 : w1.cell? ⟨x.b, 2, none⟩ = some (.int .i64 x.h) := by simp only [World.cell?, hab]; rfl
      have x3 : w1.cell? ⟨x.b, 3, none⟩ = some (.int .i64 x.p) := by simp only [World.cell?, hab]; rfl
      have HRg := Lib.hid hrg1
      have HLt := Lib.hid hlt1
      have HU := Lib.hid (accounts1_any x xs bc (R + 1) w1 HBc2.out (by omega))
      have hmm := HL1.out.map
      have hmw := HL.out.map.lt
      have HMb := Lib.hid (show (m < R + 1 ∧ m ≠ bc) ∧ R ≠ bc from by
        obtain ⟨D, ⟨es, clock, hmb, _⟩, _⟩ := hmm
        obtain ⟨_, _, v, hc, _⟩ := HBc2.out
        exact ⟨⟨by omega, fun e => (by subst e; rw [hmb] at hc; cases hc)⟩, by omega⟩)
      clear hx hlx hxm hlen hxl hRs hwr hlc hab hrg1 hlt1 hg1 hs1 hmm hmw HCe
      go_wp2_with fail
      refine HU.out.mono ?_
      rintro e w2 ⟨rfl, hc2, ha2⟩
      have HRg2 := Lib.hid (HRg.out.kept (ha2.block m HRg.out.lt.1 HMb.out.1.1 HMb.out.1.2) (ha2.block R HRg.out.lt.2.1 (Nat.lt_succ_self R) HMb.out.2))
      have HA2 := Lib.hid (show Aloof bc bc w w2 from ⟨ha2.os.trans HA1.out.os, ha2.tape.trans HA1.out.tape, ha2.output.trans HA1.out.output, Nat.le_trans HA1.out.size ha2.size, fun k hk h1 h2 => (ha2.block k (Nat.lt_of_lt_of_le hk HA1.out.size) (by have := HRr.out; omega) h1).trans (HA1.out.block k hk h1 h2)⟩)
      have HX := Lib.hid hc2
      clear hc2 ha2 hen x0 x1 x2 x3
      go_wp2_with fail
      go_roundw
      case rel => exact ⟨_, cnt1, xs ++ [x.n], HRg2, HCn, HX, HA2⟩
      case measure => rw [HRg2.out.left_eq, HR.out.left_eq]; exact HLt.out
end Go.Proofs.Ythfopabefknlkab
