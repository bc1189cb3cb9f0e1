/-
  Contract of the document's own Get: the row that bytes begin with.
-/
import Derived.Test.YtdjhoiamongdaaaRRGv
import Derived.Test.YtdjhoiamongdaaaRNul
import Derived.Test.YtdjhoiamongdaaaLst
namespace Go.Proofs.Ytdjhoiamongdaaa
open Go.RowKit Go.Shelf

/-- The ends of the document's own Get. -/
def RefGetEnd (w : World) (o : Option (List Va × Nat)) (e : Ending) (w' : World) : Prop :=
  Below w.heap.size w w' ∧ match o with
  | some (r, n) => ∃ A c, e = .returned (.tuple #[.slice A r.length c, .int .i64 n, .bool true]) ∧ RowAt w' A r ∧ (A = none → c = 0)
  | none => e = .returned (.tuple #[.slice none 0 0, .int .i64 0, .bool false])

/-- The same, and what holds the row are values. -/
def RefGetEndT (w : World) (o : Option (List Va × Nat)) (e : Ending) (w' : World) : Prop :=
  Below w.heap.size w w' ∧ match o with
  | some (r, n) => ∃ A c, e = .returned (.tuple #[.slice A r.length c, .int .i64 n, .bool true]) ∧ RowAt w' A r ∧ (A = none → c = 0) ∧ ∀ b off, A = some ⟨b, off, none⟩ → ∃ cs fr, w'.heap[b]? = some (.cells cs 94 fr)
  | none => e = .returned (.tuple #[.slice none 0 0, .int .i64 0, .bool false])
theorem RefGetEndT.plain {w : World} {o : Option (List Va × Nat)} {e : Ending} {w' : World} (h : RefGetEndT w o e w') : RefGetEnd w o e w' := by
  refine ⟨h.1, ?_⟩
  have h2 := h.2
  cases o with
  | none => exact h2
  | some q => obtain ⟨A, c, he, hr, hA, _⟩ := h2; exact ⟨A, c, he, hr, hA⟩

set_option maxHeartbeats 400000 in
theorem refGet_nil (A : Option Addr) (c : Nat) (w : World) :
    Calls Try.prog 69 #[.slice A 0 c] w fun e w' => e = .returned (.tuple #[.slice none 0 0, .int .i64 0, .bool false]) ∧ w = w' := by
  go_enter Try.func69, Try.ntmps69
  go_wp2_with fail
  go_ret3
  exact ⟨rfl, rfl⟩
set_option maxHeartbeats 400000 in
theorem refGet_large (b off L c : Nat) (k : Int) (w : World) (hL : 1 ≤ L) (c0 : w.cell? ⟨b, off, none⟩ = some (.int .u8 k)) (hk : 32 < k) :
    Calls Try.prog 69 #[.slice (some ⟨b, off, none⟩) L c] w fun e w' => e = .returned (.tuple #[.slice none 0 0, .int .i64 0, .bool false]) ∧ w = w' := by
  have hL0 : ((L : Int) == 0) = false := beq_eq_false_iff_ne.2 (by omega)
  go_enter Try.func69, Try.ntmps69
  go_wp2_with fail
  go_ret3
  exact ⟨rfl, rfl⟩

theorem owns_formA {w : World} {base : Nat} {e : TypeId} {v : Value} {l : List Va} {n : Nat} (h : w.ownsRow base e 3 v n (rowList l)) (hn : l.length = n) : ∃ A c, v = .slice A n c ∧ RowAt w A l ∧ (A = none → c = 0) := by
  subst hn
  rcases h.2 with ⟨hv, hn⟩ | ⟨g, cap, cur, hv, _⟩
  · refine ⟨none, 0, ?_, .inl (List.eq_nil_of_length_eq_zero hn), fun _ => rfl⟩
    rw [hn]; exact hv
  · subst hv
    exact ⟨_, _, rfl, row_of_owns h, fun hh => by cases hh⟩

set_option maxRecDepth 100000 in
set_option maxHeartbeats 2000000 in
theorem refGet_some (A : Option Addr) (L c K : Nat) (t : List Int) (w : World) (h : BytesAt w A ((K : Int) :: t)) (hL : t.length + 1 = L) (hc : L ≤ c) (h63 : L ≤ 9223372036854775807) (hK : K ≤ 32) :
    Calls Try.prog 69 #[.slice A L c] w (RefGetEndT w (getRow ((K : Int) :: t))) := by
  obtain ⟨b, off, rfl, hb, c0, k0, k1⟩ := at_nil h rfl
  obtain ⟨i0, hi, hz0, hz1, hz2⟩ := info_parts info_val
  have hG : getRow ((K : Int) :: t) = after [] 1 (getR K t) := by
    simp only [getRow, show ¬ (32 : Int) < K by omega, if_false, Int.toNat_natCast]
    cases getR K t with
    | none => rfl
    | some p => simp [after]
  generalize getRow ((K : Int) :: t) = res at hG ⊢
  have HG := Lib.hid hG
  clear hG
  have hL1 : 1 ≤ L := by omega
  have hK' : ¬ (32 : Int) < (K : Int) := by omega
  have hL0 : ((L : Int) == 0) = false := beq_eq_false_iff_ne.2 (by omega)
  have HH := Lib.hid h
  clear h k0 k1
  go_enter Try.func69, Try.ntmps69
  go_wp2_with fail
  go_loopw [5, 6, 7] (fun s v i wr => ∃ (j S : Nat) (r0 : List Va), j ≤ K ∧ i = .int .i64 j ∧ s = .int .i64 S ∧ S ≤ L ∧ 1 ≤ S ∧ Hid (r0.length = j) ∧ Hid (wr.ownsRow w.heap.size 94 3 v j (rowList r0)) ∧ Hid (Below w.heap.size w wr) ∧ Hid (res = after r0 S (getR (K - j) (t.drop (S - 1))))) (fun _ _ i _ => K - (intOf i).toNat)
  case atStart => exact ⟨0, 1, [], Nat.zero_le _, rfl, rfl, hL1, Nat.le_refl _, Lib.hid rfl, Lib.hid (World.ownsRow_nil _ _ _ _), Lib.hid (Below.refl _ _), Lib.hid (by rw [HG.out]; simp)⟩
  case round =>
    obtain ⟨j, S, r0, hj, rfl, rfl, hS, hS1, HRl, HOw, HWj, HGj⟩ := hrel
    have c0 := cell_kept HWj.out c0
    by_cases hlt : j < K
    · have hsl := run_from (some ⟨b, off, none⟩) L c S hS
      have hbd := (HH.out.kept HWj.out).drop c S (by simp; omega)
      rw [drop_one K t S hS1] at hbd
      have hrt := HGj.out
      rw [show K - j = K - (j + 1) + 1 by omega] at hrt
      have hgv := refGetValue_any _ (L - S) (c - S) (t.drop (S - 1)) wr hbd (by simp; omega) (by omega) (by omega)
      generalize adv (some ⟨b, off, none⟩) c S = A' at hsl hbd hgv
      have hji : (j : Int) < (K : Int) := by omega
      cases hv : getV (t.drop (S - 1)) with
      | none =>
        have HE := Lib.hid (hrt.trans (after_none hv))
        rw [hv] at hgv
        have HV := Lib.hid hgv
        clear hgv hv hrt hbd
        go_wp2_with fail
        refine HV.out.mono ?_
        rintro e w2 ⟨rfl, hb2⟩
        have HB2 := Lib.hid (bt HWj.out hb2)
        clear hb2
        unfold gotN
        go_wp2_with fail
        go_ret3
        refine ⟨bt HB2.out (ba _ _), ?_⟩
        rw [HE.out]
        rfl
      | some p =>
        obtain ⟨v, n⟩ := p
        have HE := Lib.hid (hrt.trans (after_some hv))
        obtain ⟨hn1, hn2, hok⟩ := getV_some hv
        rw [List.length_drop] at hn2
        rw [hv] at hgv
        have HV := Lib.hid hgv
        have hn0 : ((n : Int) == 0) = false := beq_eq_false_iff_ne.2 (by omega)
        clear hgv hv hrt hbd
        go_wp2_with fail
        refine HV.out.mono ?_
        rintro e w2 ⟨rfl, hb2⟩
        have HB2 := Lib.hid (bt HWj.out hb2)
        have hown := owns_same HOw.out (fun k hk => hb2.block k (HOw.out.lt k hk).2)
        have hsz := HB2.out.size
        clear hb2
        unfold gotN
        go_wp2_with (at_builtin; refine wpList_append_own _ rfl _ _ 30 rfl w.heap.size 94 i0 _ 3 32 Try.underlying30 hi hz0 hz1 hz2 rfl (by decide) _ _ _ rfl ((hown.alloc _).alloc _) ⟨w2.heap.size + 1, 0, none⟩ 1 1 [.int .i64 v.k, .int .i64 v.n, .string v.s] rfl rfl ?c1 ?c2 ?c3 ?c4 ?c5 ?_)
        case c1 =>
          refine World.news_of_block (cs := #[.int .i64 v.k, .int .i64 v.n, .string v.s]) (t := 94) (fr := (0, 0)) ?_
          rw [← World.size_alloc]
          exact heap_alloc_new _ _
        case c2 => simp [Value.oneCell']
        case c3 => unfold maxLen; omega
        case c4 => omega
        case c5 => simp; omega
        intro v' w3 hown1 hgrow _
        have hB1 := (bt HB2.out (ba2 _ _ _)).grown hgrow (by simp; omega) (fun k hk => (hown.lt k hk).1)
        have HO := Lib.hid hown1
        have HB3 := Lib.hid hB1
        have HRn := Lib.hid (show (r0 ++ [v]).length = j + 1 by simp [HRl.out])
        have HTn := Lib.hid (show rowList (r0 ++ [v]) = rowList r0 ++ [.int .i64 v.k, .int .i64 v.n, .string v.s] by rw [rowList_append]; rfl)
        clear hown hown1 hgrow hB1 hsz
        go_wp2_with fail
        go_roundw
        case rel => exact ⟨j + 1, S + n, r0 ++ [v], by omega, by go_num, by go_num, by omega, by omega, HRn, Lib.hid (by rw [HTn.out]; exact HO.out), HB3, Lib.hid (by rw [HE.out, List.drop_drop]; congr 3; omega)⟩
        case measure => simp [intOf]; omega
    · obtain rfl : j = K := by omega
      have HE := Lib.hid (show res = some (r0, S) by rw [HGj.out]; simp [getR, after])
      obtain ⟨A9, c9, rfl, hr9, hA9⟩ := owns_formA HOw.out HRl.out
      have HT9 := Lib.hid (show ∀ b off, A9 = some ⟨b, off, none⟩ → ∃ cs fr, wr.heap[b]? = some (.cells cs 94 fr) from fun b off hb => by
        subst hb
        rcases HOw.out.2 with ⟨hv, _⟩ | ⟨g', cap', cur, hv, _, hg, _⟩
        · cases hv
        · cases hv; exact ⟨cur, _, hg⟩)
      have HR9 := Lib.hid hr9
      have HA9 := Lib.hid hA9
      clear hr9 hA9
      go_wp2_with fail
      go_ret3
      refine ⟨HWj.out, ?_⟩
      rw [HE.out]
      exact ⟨A9, c9, by simp [HRl.out], HR9.out, HA9.out, HT9.out⟩

theorem refGet_anyT (A : Option Addr) (L c : Nat) (bs : List Int) (w : World) (h : BytesAt w A bs) (hL : bs.length = L) (hc : L ≤ c) (h63 : L ≤ 9223372036854775807) :
    Calls Try.prog 69 #[.slice A L c] w (RefGetEndT w (getRow bs)) := by
  cases bs with
  | nil =>
    subst hL
    refine (refGet_nil A c w).mono ?_
    rintro e w' ⟨rfl, rfl⟩
    exact ⟨Below.refl _ _, rfl⟩
  | cons k t =>
    obtain ⟨b, off, rfl, hb, c0, k0, k1⟩ := at_nil h rfl
    obtain ⟨K, rfl⟩ := Int.eq_ofNat_of_zero_le k0
    simp only [List.length_cons] at hL
    by_cases hk : (32 : Int) < K
    · refine (refGet_large b off L c K w (by omega) c0 hk).mono ?_
      rintro e w' ⟨rfl, rfl⟩
      refine ⟨Below.refl _ _, ?_⟩
      rw [show getRow ((K : Int) :: t) = none by simp only [getRow, if_pos hk]]
    · exact refGet_some _ L c K t w h hL hc h63 (by omega)
theorem refGet_any (A : Option Addr) (L c : Nat) (bs : List Int) (w : World) (h : BytesAt w A bs) (hL : bs.length = L) (hc : L ≤ c) (h63 : L ≤ 9223372036854775807) :
    Calls Try.prog 69 #[.slice A L c] w (RefGetEnd w (getRow bs)) :=
  (refGet_anyT A L c bs w h hL hc h63).mono fun _ _ h => h.plain

end Go.Proofs.Ytdjhoiamongdaaa
