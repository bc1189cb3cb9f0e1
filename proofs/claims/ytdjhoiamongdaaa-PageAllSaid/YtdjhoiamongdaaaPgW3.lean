/-
  The walk of PageAll.
-/
import Derived.Test.YtdjhoiamongdaaaPgW1
import Derived.Test.YtdjhoiamongdaaaPgV
namespace Go.Proofs.Ytdjhoiamongdaaa
open Go.RowKit Go.Shelf

def rowsP (p : List Int) : List (List Va) := match openP p with
  | some (rs, _) => rs
  | none => []
def noneP (p : List Int) : Bool := (openP p).isNone
theorem pagesP_good (ps : List (List Int)) : pagesP ps = if ps.any noneP = true then none else some (ps.flatMap rowsP) := by
  induction ps with
  | nil => rfl
  | cons p ps ih =>
    rw [pagesP_cons, ih, List.any_cons, List.flatMap_cons]
    cases ho : openP p with
    | none => simp [noneP, ho]
    | some q =>
      obtain ⟨rs, n⟩ := q
      simp only [noneP, ho, Option.isNone_some, Bool.false_or, rowsP]
      split <;> rfl
theorem flat_succ (ps : List (List Int)) (j : Nat) (h : j < ps.length) : (ps.take (j + 1)).flatMap rowsP = (ps.take j).flatMap rowsP ++ rowsP ps[j] := by
  rw [List.take_succ_eq_append_getElem h, List.flatMap_append]
  simp
theorem any_succ (ps : List (List Int)) (j : Nat) (h : j < ps.length) : (ps.take (j + 1)).any noneP = ((ps.take j).any noneP || noneP ps[j]) := by
  rw [List.take_succ_eq_append_getElem h, List.any_append]
  simp

theorem PagesAt.kept {w w' : World} {B : Option Addr} {ps : List (List Int)} (h : PagesAt w B ps) (hb : Below w.heap.size w w') : PagesAt w' B ps := by
  rcases h with h | ⟨b, off, hB, hlt, hc⟩
  · exact .inl h
  · refine .inr ⟨b, off, hB, Nat.lt_of_lt_of_le hlt hb.size, fun i r hr => ?_⟩
    obtain ⟨A, c, hcell, hrow, hA⟩ := hc i r hr
    exact ⟨A, c, (hb.cell (p := ⟨b, _, none⟩) hlt).trans hcell, hrow.kept hb, hA⟩

set_option maxRecDepth 100000 in
set_option maxHeartbeats 1000000 in
theorem pageAll_many (A : Option Addr) (c L : Nat) (w : World) (hL : (50 : Int) < L) :
    Calls Try.prog 6 #[.slice A L c] w fun e w' => e = .returned (.bool true) ∧ Below w.heap.size w w' := by
  go_enter Try.func6, Try.ntmps6
  go_wp2_with fail
  refine (livesP_yes _).mono ?_
  rintro e w2 ⟨rfl, hb⟩
  go_wp2_with fail
  go_ret
  exact ⟨rfl, hb⟩

set_option maxRecDepth 100000 in
set_option maxHeartbeats 4000000 in
theorem pageAll_few (A : Option Addr) (c L : Nat) (ps : List (List Int)) (w : World) (h : PagesAt w A ps) (hL : ps.length = L) (hk : ∀ p ∈ ps, p.length ≤ 9223372036854775807) (hs : ¬ (50 : Int) < L) :
    Calls Try.prog 6 #[.slice A L c] w fun e w' => e = .returned (.bool true) ∧ Below w.heap.size w w' := by
  have HR := Lib.hid h
  have HL := Lib.hid hL
  have HK := Lib.hid hk
  clear h hL hk
  go_enter Try.func6, Try.ntmps6
  go_wp2_with fail
  go_loopw [3, 4, 5] (fun v b i wr => ∃ (j : Nat) (acc : List (List Va)) (bd : Bool), j ≤ L ∧ i = .int .i64 j ∧ b = .bool bd ∧ acc.length ≤ 85 * j ∧ Hid (bd = (ps.take j).any noneP) ∧ Hid (acc = (ps.take j).flatMap rowsP) ∧ Hid (∀ r ∈ acc, r.length ≤ 32) ∧ Hid (ListOwn wr w.heap.size v acc) ∧ Hid (Below w.heap.size w wr)) (fun _ _ i _ => L - (intOf i).toNat)
  case atStart => exact ⟨0, [], false, Nat.zero_le _, rfl, rfl, by simp, Lib.hid (by simp), Lib.hid (by simp), Lib.hid (by simp), Lib.hid (ListOwn.nil _ _), Lib.hid (Below.refl _ _)⟩
  case round =>
    obtain ⟨j, acc, bd, hj, rfl, rfl, hacc, HBd, HAc, H32, HO, HB⟩ := hrel
    by_cases hlt : j < L
    · have hlt' : j < ps.length := by rw [HL.out]; exact hlt
      obtain ⟨b, off, rfl, A', c', c0, hp, hpc⟩ := HR.out.at HB.out hlt'
      have hkp := HK.out ps[j] (List.getElem_mem hlt')
      have HX := Lib.hid (flat_succ ps j hlt')
      have HY := Lib.hid (any_succ ps j hlt')
      generalize ps[j] = p at c0 hp hpc HX HY hkp
      have HP := Lib.hid hp
      have HPl := Lib.hid (rfl : p.length = p.length)
      clear hp
      generalize hlp : p.length = lp at c0 hpc hkp
      have HPl := Lib.hid hlp
      clear hlp
      by_cases hbig : (2000 : Int) < (lp : Int)
      · go_wp2_with fail
        refine (livesP_yes _).mono ?_
        rintro e w3 ⟨rfl, hb3⟩
        go_wp2_with fail
        go_ret
        exact ⟨rfl, bt HB.out hb3⟩
      · have hby := HP.out.2
        have HI := Lib.hid (refRows_any A' lp c' p wr HP.out HPl.out hpc)
        have hrp := refP_eq hby
        cases ho : openP p with
        | none =>
          rw [hrp, ho] at HI
          have HXn := Lib.hid (show acc = (ps.take (j + 1)).flatMap rowsP by rw [HX.out, ← HAc.out]; simp [rowsP, ho])
          have HYn := Lib.hid (show true = (ps.take (j + 1)).any noneP by rw [HY.out]; simp [noneP, ho])
          clear hrp ho hby
          cases bd
          all_goals
            go_wp2_with fail
            refine HI.out.mono ?_
            rintro e w2 ⟨hb2, rfl⟩
            have HO1 := Lib.hid (HO.out.kept HB.out.size hb2)
            have HB1 := Lib.hid (bt HB.out hb2)
            have hsz := HB1.out.size
            clear hb2 c0
            go_wp2_with (at_builtin; refine wpList_appL rfl (.tmp 40) (.tmp 41) rfl u3 acc none 0 0 [] _ w.heap.size rfl rfl rfl HO1.out (.inl rfl) (fun _ => rfl) hsz (by simp; omega) ?_)
            intro v' w9 hl9 hG9
            have HO9 := Lib.hid hl9
            have HB9 := Lib.hid (HB1.out.trans hG9.1)
            clear hl9 hG9
            go_wp2_with fail
            go_roundw
            case rel => exact ⟨j + 1, acc, true, by omega, by go_num, rfl, by omega, HYn, HXn, H32, HO9, HB9⟩
            case measure => simp [intOf]; omega
        | some q =>
          obtain ⟨rs, n⟩ := q
          rw [hrp, ho] at HI
          obtain ⟨hok, hft, _, _⟩ := openP_make hby ho
          obtain ⟨_, _, h85⟩ := fitsP_parts hft
          have HXn := Lib.hid (show acc ++ rs = (ps.take (j + 1)).flatMap rowsP by rw [HX.out, ← HAc.out]; simp [rowsP, ho])
          have HYn := Lib.hid (show bd = (ps.take (j + 1)).any noneP by rw [HY.out, ← HBd.out]; simp [noneP, ho])
          have H32n := Lib.hid (show ∀ r ∈ acc ++ rs, r.length ≤ 32 from fun r hr => by
            rcases List.mem_append.1 hr with hr | hr
            · exact H32.out r hr
            · exact (okR_parts (hok r hr)).1)
          clear hrp ho hby hok hft
          cases bd
          all_goals
            go_wp2_with fail
            refine HI.out.mono ?_
            rintro e w2 ⟨hb2, A2, c2, rfl, _, hA2, hO2, _⟩
            have HO1 := Lib.hid (HO.out.kept HB.out.size hb2)
            have HB1 := Lib.hid (bt HB.out hb2)
            have HRI := Lib.hid (show RowsIn w2 w.heap.size A2 rs by
              obtain ⟨A3, c3, e3, h3, _⟩ := hO2.inB
              cases e3
              exact h3.up)
            have hsz := HB1.out.size
            clear hb2 hO2 c0
            generalize hLr : rs.length = Lr at h85
            have HLr := Lib.hid hLr
            clear hLr
            go_wp2_with (at_builtin; refine wpList_appL rfl (.tmp 40) (.tmp 41) rfl u3 acc A2 c2 Lr rs _ w.heap.size rfl rfl HLr.out HO1.out HRI.out hA2 hsz (by rw [HLr.out]; omega) ?_)
            intro v' w9 hl9 hG9
            have HO9 := Lib.hid hl9
            have HB9 := Lib.hid (HB1.out.trans hG9.1)
            clear hl9 hG9
            go_wp2_with fail
            go_roundw
            case rel => exact ⟨j + 1, acc ++ rs, _, by omega, by go_num, rfl, by rw [List.length_append, HLr.out]; omega, HYn, HXn, H32n, HO9, HB9⟩
            case measure => simp [intOf]; omega
    · have HT := Lib.hid (show ps.take j = ps from List.take_of_length_le (by rw [HL.out]; omega))
      have hpg := pagesP_good ps
      have h1 := HBd.out
      have h2 := HAc.out
      rw [HT.out] at h1 h2
      rw [← h1, ← h2] at hpg
      have HPg := Lib.hid hpg
      clear hpg h1 h2
      obtain ⟨A9, c9, rfl, hr9, hA9, _⟩ := own_end HO.out
      have HR9 := Lib.hid hr9
      clear hr9 hA9
      go_wp2_with fail
      refine (pages_any A c L ps wr (HR.out.kept HB.out) HL.out (by omega)).mono ?_
      rw [HPg.out]
      cases bd
      · rw [if_neg (by decide)]
        rintro e w2 ⟨hb2, A2, c2, rfl, hr2, _, _⟩
        have HB := Lib.hid (bt HB.out hb2)
        have HR9 := Lib.hid (HR9.out.kept hb2)
        have HR2 := Lib.hid hr2
        clear hb2 hr2
        go_wp2_with fail
        refine (livesP_yes _).mono ?_
        rintro e w3 ⟨rfl, hb3⟩
        have HB := Lib.hid (bt HB.out hb3)
        have HR9 := Lib.hid (HR9.out.kept hb3)
        have HR2 := Lib.hid (HR2.out.kept hb3)
        clear hb3
        go_wp2_with fail
        refine (sameList_self A2 A9 c2 c9 acc w3 HR2.out HR9.out (by omega) (fun r hr => by have := H32.out r hr; omega)).mono ?_
        rintro e w4 ⟨rfl, hb4⟩
        have HB := Lib.hid (bt HB.out hb4)
        clear hb4
        go_wp2_with fail
        go_ret
        exact ⟨rfl, HB.out⟩
      · rw [if_pos rfl]
        rintro e w2 ⟨hb2, rfl⟩
        have HB := Lib.hid (bt HB.out hb2)
        clear hb2
        go_wp2_with fail
        refine (livesP_yes _).mono ?_
        rintro e w3 ⟨rfl, hb3⟩
        have HB := Lib.hid (bt HB.out hb3)
        clear hb3
        go_wp2_with fail
        go_ret
        exact ⟨rfl, HB.out⟩

theorem pageAll_walk (A : Option Addr) (c : Nat) (ps : List (List Int)) (w : World) (h : PagesAt w A ps) (hk : ∀ p ∈ ps, p.length ≤ 9223372036854775807) :
    Calls Try.prog 6 #[.slice A ps.length c] w fun e w' => e = .returned (.bool true) ∧ Below w.heap.size w w' := by
  by_cases h1 : (50 : Int) < ps.length
  · exact pageAll_many A c _ w h1
  · exact pageAll_few A c _ ps w h rfl hk h1
end Go.Proofs.Ytdjhoiamongdaaa
