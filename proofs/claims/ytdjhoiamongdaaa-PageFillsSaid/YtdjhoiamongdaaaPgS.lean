/-
  The contract of page.Pages.
-/
import Derived.Test.YtdjhoiamongdaaaPgR
import Derived.Test.YtdjhoiamongdaaaLst2
namespace Go.Proofs.Ytdjhoiamongdaaa
open Go.RowKit Go.Shelf

theorem Elems.up {w : World} {B : Nat} {xs : List Value} {p : List (List Va)} (h : Elems w 0 xs p) : Elems w B xs p :=
  ⟨h.1, fun k r hr => by
    obtain ⟨A, c, h1, ⟨h2, h3⟩, h4⟩ := h.2 k r hr
    exact ⟨A, c, h1, ⟨h2, fun hne b off hA => .inr ((h3 hne b off hA).resolve_left (Nat.not_lt_zero _))⟩, h4⟩⟩
theorem RowsIn.up {w : World} {B : Nat} {A : Option Addr} {p : List (List Va)} (h : RowsIn w 0 A p) : RowsIn w B A p := by
  rcases h with h | ⟨b, off, xs, h1, h2, h3, h4⟩
  · exact .inl h
  · exact .inr ⟨b, off, xs, h1, h2, h3, h4.up⟩

/-- A list of pages that came in. -/
def PagesAt (w : World) (B : Option Addr) (ps : List (List Int)) : Prop :=
  ps = [] ∨ ∃ b off : Nat, B = some ⟨b, off, none⟩ ∧ b < w.heap.size ∧ ∀ (i : Nat) (p : List Int), ps[i]? = some p → ∃ A c, w.cell? ⟨b, off + i, none⟩ = some (.slice A p.length c) ∧ BytesAt w A p ∧ p.length ≤ c
theorem PagesAt.at {w w' : World} {B : Option Addr} {ps : List (List Int)} (h : PagesAt w B ps) (hb : Below w.heap.size w w') {i : Nat} (hi : i < ps.length) :
    ∃ b off : Nat, B = some ⟨b, off, none⟩ ∧ ∃ A c, w'.cell? ⟨b, off + i, none⟩ = some (.slice A ps[i].length c) ∧ BytesAt w' A ps[i] ∧ ps[i].length ≤ c := by
  rcases h with h | ⟨b, off, hB, hlt, hc⟩
  · subst h; simp at hi
  · obtain ⟨A, c, hcell, hrow, hA⟩ := hc i ps[i] (List.getElem?_eq_getElem hi)
    exact ⟨b, off, hB, A, c, (hb.cell (p := ⟨b, _, none⟩) hlt).trans hcell, hrow.kept hb, hA⟩

/-- The rows of all pages, or none. -/
def pagesP : List (List Int) → Option (List (List Va))
  | [] => some []
  | p :: ps => match openP p, pagesP ps with
    | some (rs, _), some l => some (rs ++ l)
    | _, _ => none

theorem pagesP_cons (p : List Int) (ps : List (List Int)) : pagesP (p :: ps) = match openP p with
    | some (rs, _) => (pagesP ps).map (rs ++ ·)
    | none => none := by
  show (match openP p, pagesP ps with | some (rs, _), some l => some (rs ++ l) | _, _ => none) = _
  cases openP p with
  | none => rfl
  | some q => cases pagesP ps <;> rfl

def PagesEnd (w : World) (o : Option (List (List Va))) (e : Ending) (w' : World) : Prop :=
  Below w.heap.size w w' ∧ match o with
  | some l => ∃ A c, e = .returned (.tuple #[.slice A l.length c, .int .i64 0]) ∧ RowsAt w' A l ∧ (A = none → c = 0) ∧ l.length ≤ 51000
  | none => e = .returned (.tuple #[.slice none 0 0, .int .i64 40])

set_option maxRecDepth 100000 in
set_option maxHeartbeats 1000000 in
theorem pages_any (A : Option Addr) (c L : Nat) (ps : List (List Int)) (w : World) (h : PagesAt w A ps) (hL : ps.length = L) (hl : L ≤ 600) :
    Calls Try.prog 32 #[.slice A L c] w (PagesEnd w (pagesP ps)) := by
  have HR := Lib.hid h
  have HL := Lib.hid hL
  clear h hL
  obtain ⟨res, hres⟩ : ∃ res, res = pagesP ps := ⟨_, rfl⟩
  rw [← hres]
  have HRes := Lib.hid hres
  clear hres
  go_enter Try.func32, Try.ntmps32
  go_wp2_with fail
  go_loopw [4, 11] (fun v i wr => ∃ (j : Nat) (acc : List (List Va)), j ≤ L ∧ i = .int .i64 j ∧ acc.length ≤ 85 * j ∧ Hid (ListOwn wr w.heap.size v acc) ∧ Hid (Below w.heap.size w wr) ∧ Hid (res = (pagesP (ps.drop j)).map (acc ++ ·))) (fun _ i _ => L - (intOf i).toNat)
  case atStart => exact ⟨0, [], Nat.zero_le _, rfl, by simp, Lib.hid (ListOwn.nil _ _), Lib.hid (Below.refl _ _), Lib.hid (by rw [HRes.out]; simp)⟩
  case round =>
    obtain ⟨j, acc, hj, rfl, hacc, HO, HB, HE⟩ := hrel
    by_cases hlt : j < L
    · have hlt' : j < ps.length := by rw [HL.out]; exact hlt
      obtain ⟨b, off, rfl, A', c', c0, hp, hpc⟩ := HR.out.at HB.out hlt'
      have hd : ps.drop j = ps[j] :: ps.drop (j + 1) := List.drop_eq_getElem_cons hlt'
      have he := HE.out
      rw [hd, pagesP_cons] at he
      generalize ps[j] = p at c0 hp hpc he
      have HI := Lib.hid (pageRows_any A' p.length c' p wr hp rfl hpc)
      have hby := hp.2
      generalize p.length = lp at c0 HI
      clear hd hp hpc
      cases ho : openP p with
      | none =>
        rw [ho] at HI he
        have HN := Lib.hid (show res = none from he)
        clear he ho hby
        go_wp2_with fail
        refine HI.out.mono ?_
        rintro e w2 ⟨hb2, rfl⟩
        go_wp2_with fail
        go_ret2
        refine ⟨bt HB.out hb2, ?_⟩
        rw [HN.out]
        rfl
      | some q =>
        obtain ⟨rs, n⟩ := q
        rw [ho] at HI he
        obtain ⟨_, hft, _, _⟩ := openP_make hby ho
        obtain ⟨_, _, h85⟩ := fitsP_parts hft
        have HN := Lib.hid (show res = (pagesP (ps.drop (j + 1))).map ((acc ++ rs) ++ ·) by rw [he]; cases pagesP (ps.drop (j + 1)) <;> simp)
        clear he ho hby hft
        go_wp2_with fail
        refine HI.out.mono ?_
        rintro e w2 ⟨hb2, A2, c2, rfl, _, hA2, hO2⟩
        have HO1 := Lib.hid (HO.out.kept HB.out.size hb2)
        have HB1 := Lib.hid (bt HB.out hb2)
        have HRI := Lib.hid (show RowsIn w2 w.heap.size A2 rs by
          obtain ⟨A3, c3, e3, h3, _⟩ := hO2.inB
          cases e3
          exact h3.up)
        have hsz := HB1.out.size
        clear hb2 hO2 c0
        generalize hLr : rs.length = Lr at h85
        have HLr := Lib.hid hLr
        clear hLr
        go_wp2_with (at_builtin; refine wpList_appL rfl _ _ rfl u4 acc A2 c2 Lr rs _ w.heap.size rfl rfl HLr.out HO1.out HRI.out hA2 ?c1 ?c2 ?_)
        case c1 => exact hsz
        case c2 => rw [HLr.out]; omega
        intro v' w9 hl9 hG9
        have HO9 := Lib.hid hl9
        have HB9 := Lib.hid (HB1.out.trans hG9.1)
        clear hl9 hG9
        go_wp2_with fail
        go_roundw
        case rel => exact ⟨j + 1, acc ++ rs, by omega, by go_num, by rw [List.length_append, HLr.out]; omega, HO9, HB9, HN⟩
        case measure => simp [intOf]; omega
    · have HF := Lib.hid (show res = some acc by rw [HE.out, List.drop_eq_nil_of_le (by rw [HL.out]; omega)]; simp [pagesP])
      obtain ⟨A9, c9, rfl, hr9, hA9, _⟩ := own_end HO.out
      have HR9 := Lib.hid hr9
      have HA9 := Lib.hid hA9
      clear hr9 hA9
      go_wp2_with fail
      go_ret2
      refine ⟨HB.out, ?_⟩
      rw [HF.out]
      exact ⟨A9, c9, rfl, HR9.out, HA9.out, by omega⟩
end Go.Proofs.Ytdjhoiamongdaaa
