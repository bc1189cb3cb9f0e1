/-
  Contract of the document's own Get: the row that bytes begin with.
The contract of the document's own Rows of a page.
page.Add of a page that was made; 'lives' of package page's laws.
A list of rows copied and lengthened in one statement.
Rows by pages, as the document's own Fill keeps them.
The contract of the document's own Fill.
Package catalog: the walk of CatalogPages.
-/
import Derived.Test.YtmjckdgomlppeaaGreatDoorZ12
import Derived.Deep.CutRange
section
namespace Go.Proofs.YtmjckdgomlppeaaGreatDoor
open Go.RowKit Go.Shelf

/-- The ends of the document's own Get. -/
def RefGetEnd (w : World) (o : Option (List Va × Nat)) (e : Ending) (w' : World) : Prop :=
  Below w.heap.size w w' ∧ match o with
  | some (r, n) => ∃ A c, e = .returned (.tuple #[.slice A r.length c, .int .i64 n, .bool true]) ∧ RowAt w' A r ∧ (A = none → c = 0)
  | none => e = .returned (.tuple #[.slice none 0 0, .int .i64 0, .bool false])

/-- The same, and what holds the row are values. -/
def RefGetEndT (w : World) (o : Option (List Va × Nat)) (e : Ending) (w' : World) : Prop :=
  Below w.heap.size w w' ∧ match o with
  | some (r, n) => ∃ A c, e = .returned (.tuple #[.slice A r.length c, .int .i64 n, .bool true]) ∧ RowAt w' A r ∧ (A = none → c = 0) ∧ ∀ b off, A = some ⟨b, off, none⟩ → ∃ cs fr, w'.heap[b]? = some (.cells cs 69 fr)
  | none => e = .returned (.tuple #[.slice none 0 0, .int .i64 0, .bool false])
theorem RefGetEndT.plain {w : World} {o : Option (List Va × Nat)} {e : Ending} {w' : World} (h : RefGetEndT w o e w') : RefGetEnd w o e w' := by
  refine ⟨h.1, ?_⟩
  have h2 := h.2
  cases o with
  | none => exact h2
  | some q => obtain ⟨A, c, he, hr, hA, _⟩ := h2; exact ⟨A, c, he, hr, hA⟩

set_option maxHeartbeats 400000 in
theorem refGet_nil (A : Option Addr) (c : Nat) (w : World) :
    Calls Tryz.prog 48 #[.slice A 0 c] w fun e w' => e = .returned (.tuple #[.slice none 0 0, .int .i64 0, .bool false]) ∧ w = w' := by
  go_enter Tryz.func48, Tryz.ntmps48
  go_wp2_with fail
  go_ret3
  exact ⟨rfl, rfl⟩
set_option maxHeartbeats 400000 in
theorem refGet_large (b off L c : Nat) (k : Int) (w : World) (hL : 1 ≤ L) (c0 : w.cell? ⟨b, off, none⟩ = some (.int .u8 k)) (hk : 32 < k) :
    Calls Tryz.prog 48 #[.slice (some ⟨b, off, none⟩) L c] w fun e w' => e = .returned (.tuple #[.slice none 0 0, .int .i64 0, .bool false]) ∧ w = w' := by
  have hL0 : ((L : Int) == 0) = false := beq_eq_false_iff_ne.2 (by omega)
  go_enter Tryz.func48, Tryz.ntmps48
  go_wp2_with fail
  go_ret3
  exact ⟨rfl, rfl⟩

theorem owns_formA {w : World} {base : Nat} {e : TypeId} {v : Value} {l : List Va} {n : Nat} (h : w.ownsRow base e 3 v n (rowList l)) (hn : l.length = n) : ∃ A c, v = .slice A n c ∧ RowAt w A l ∧ (A = none → c = 0) := by
  subst hn
  rcases h.2 with ⟨hv, hn⟩ | ⟨g, cap, cur, hv, _⟩
  · refine ⟨none, 0, ?_, .inl (List.eq_nil_of_length_eq_zero hn), fun _ => rfl⟩
    rw [hn]; exact hv
  · subst hv
    exact ⟨_, _, rfl, row_of_owns h, fun hh => by cases hh⟩

set_option maxRecDepth 100000 in
set_option maxHeartbeats 2000000 in
theorem refGet_some (A : Option Addr) (L c K : Nat) (t : List Int) (w : World) (h : BytesAt w A ((K : Int) :: t)) (hL : t.length + 1 = L) (hc : L ≤ c) (h63 : L ≤ 9223372036854775807) (hK : K ≤ 32) :
    Calls Tryz.prog 48 #[.slice A L c] w (RefGetEndT w (getRow ((K : Int) :: t))) := by
  obtain ⟨b, off, rfl, hb, c0, k0, k1⟩ := at_nil h rfl
  obtain ⟨i0, hi, hz0, hz1, hz2⟩ := info_parts info_val
  have hG : getRow ((K : Int) :: t) = after [] 1 (getR K t) := by
    simp only [getRow, show ¬ (32 : Int) < K by omega, if_false, Int.toNat_natCast]
    cases getR K t with
    | none => rfl
    | some p => simp [after]
  generalize getRow ((K : Int) :: t) = res at hG ⊢
  have HG := Lib.hid hG
  clear hG
  have hL1 : 1 ≤ L := by omega
  have hK' : ¬ (32 : Int) < (K : Int) := by omega
  have hL0 : ((L : Int) == 0) = false := beq_eq_false_iff_ne.2 (by omega)
  have HH := Lib.hid h
  clear h k0 k1
  go_enter Tryz.func48, Tryz.ntmps48
  go_wp2_with fail
  go_loopw [5, 6, 7] (fun s v i wr => ∃ (j S : Nat) (r0 : List Va), j ≤ K ∧ i = .int .i64 j ∧ s = .int .i64 S ∧ S ≤ L ∧ 1 ≤ S ∧ Hid (r0.length = j) ∧ Hid (wr.ownsRow w.heap.size 69 3 v j (rowList r0)) ∧ Hid (Below w.heap.size w wr) ∧ Hid (res = after r0 S (getR (K - j) (t.drop (S - 1))))) (fun _ _ i _ => K - (intOf i).toNat)
  case atStart => exact ⟨0, 1, [], Nat.zero_le _, rfl, rfl, hL1, Nat.le_refl _, Lib.hid rfl, Lib.hid (World.ownsRow_nil _ _ _ _), Lib.hid (Below.refl _ _), Lib.hid (by rw [HG.out]; simp)⟩
  case round =>
    obtain ⟨j, S, r0, hj, rfl, rfl, hS, hS1, HRl, HOw, HWj, HGj⟩ := hrel
    have c0 := cell_kept HWj.out c0
    by_cases hlt : j < K
    · have hsl := run_from (some ⟨b, off, none⟩) L c S hS
      have hbd := (HH.out.kept HWj.out).drop c S (by simp; omega)
      rw [drop_one K t S hS1] at hbd
      have hrt := HGj.out
      rw [show K - j = K - (j + 1) + 1 by omega] at hrt
      have hgv := refGetValue_any _ (L - S) (c - S) (t.drop (S - 1)) wr hbd (by simp; omega) (by omega) (by omega)
      generalize adv (some ⟨b, off, none⟩) c S = A' at hsl hbd hgv
      have hji : (j : Int) < (K : Int) := by omega
      cases hv : getV (t.drop (S - 1)) with
      | none =>
        have HE := Lib.hid (hrt.trans (after_none hv))
        rw [hv] at hgv
        have HV := Lib.hid hgv
        clear hgv hv hrt hbd
        go_wp2_with fail
        refine HV.out.mono ?_
        rintro e w2 ⟨rfl, hb2⟩
        have HB2 := Lib.hid (bt HWj.out hb2)
        clear hb2
        unfold gotN
        go_wp2_with fail
        go_ret3
        refine ⟨bt HB2.out (ba _ _), ?_⟩
        rw [HE.out]
        rfl
      | some p =>
        obtain ⟨v, n⟩ := p
        have HE := Lib.hid (hrt.trans (after_some hv))
        obtain ⟨hn1, hn2, hok⟩ := getV_some hv
        rw [List.length_drop] at hn2
        rw [hv] at hgv
        have HV := Lib.hid hgv
        have hn0 : ((n : Int) == 0) = false := beq_eq_false_iff_ne.2 (by omega)
        clear hgv hv hrt hbd
        go_wp2_with fail
        refine HV.out.mono ?_
        rintro e w2 ⟨rfl, hb2⟩
        have HB2 := Lib.hid (bt HWj.out hb2)
        have hown := owns_same HOw.out (fun k hk => hb2.block k (HOw.out.lt k hk).2)
        have hsz := HB2.out.size
        clear hb2
        unfold gotN
        go_wp2_with (at_builtin; refine wpList_append_own _ rfl _ _ 38 rfl w.heap.size 69 i0 _ 3 32 Tryz.underlying38 hi hz0 hz1 hz2 rfl (by decide) _ _ _ rfl ((hown.alloc _).alloc _) ⟨w2.heap.size + 1, 0, none⟩ 1 1 [.int .i64 v.k, .int .i64 v.n, .string v.s] rfl rfl ?c1 ?c2 ?c3 ?c4 ?c5 ?_)
        case c1 =>
          refine World.news_of_block (cs := #[.int .i64 v.k, .int .i64 v.n, .string v.s]) (t := 69) (fr := (0, 0)) ?_
          rw [← World.size_alloc]
          exact heap_alloc_new _ _
        case c2 => simp [Value.oneCell']
        case c3 => unfold maxLen; omega
        case c4 => omega
        case c5 => simp; omega
        intro v' w3 hown1 hgrow _
        have hB1 := (bt HB2.out (ba2 _ _ _)).grown hgrow (by simp; omega) (fun k hk => (hown.lt k hk).1)
        have HO := Lib.hid hown1
        have HB3 := Lib.hid hB1
        have HRn := Lib.hid (show (r0 ++ [v]).length = j + 1 by simp [HRl.out])
        have HTn := Lib.hid (show rowList (r0 ++ [v]) = rowList r0 ++ [.int .i64 v.k, .int .i64 v.n, .string v.s] by rw [rowList_append]; rfl)
        clear hown hown1 hgrow hB1 hsz
        go_wp2_with fail
        go_roundw
        case rel => exact ⟨j + 1, S + n, r0 ++ [v], by omega, by go_num, by go_num, by omega, by omega, HRn, Lib.hid (by rw [HTn.out]; exact HO.out), HB3, Lib.hid (by rw [HE.out, List.drop_drop]; congr 3; omega)⟩
        case measure => simp [intOf]; omega
    · obtain rfl : j = K := by omega
      have HE := Lib.hid (show res = some (r0, S) by rw [HGj.out]; simp [getR, after])
      obtain ⟨A9, c9, rfl, hr9, hA9⟩ := owns_formA HOw.out HRl.out
      have HT9 := Lib.hid (show ∀ b off, A9 = some ⟨b, off, none⟩ → ∃ cs fr, wr.heap[b]? = some (.cells cs 69 fr) from fun b off hb => by
        subst hb
        rcases HOw.out.2 with ⟨hv, _⟩ | ⟨g', cap', cur, hv, _, hg, _⟩
        · cases hv
        · cases hv; exact ⟨cur, _, hg⟩)
      have HR9 := Lib.hid hr9
      have HA9 := Lib.hid hA9
      clear hr9 hA9
      go_wp2_with fail
      go_ret3
      refine ⟨HWj.out, ?_⟩
      rw [HE.out]
      exact ⟨A9, c9, by simp [HRl.out], HR9.out, HA9.out, HT9.out⟩

theorem refGet_anyT (A : Option Addr) (L c : Nat) (bs : List Int) (w : World) (h : BytesAt w A bs) (hL : bs.length = L) (hc : L ≤ c) (h63 : L ≤ 9223372036854775807) :
    Calls Tryz.prog 48 #[.slice A L c] w (RefGetEndT w (getRow bs)) := by
  cases bs with
  | nil =>
    subst hL
    refine (refGet_nil A c w).mono ?_
    rintro e w' ⟨rfl, rfl⟩
    exact ⟨Below.refl _ _, rfl⟩
  | cons k t =>
    obtain ⟨b, off, rfl, hb, c0, k0, k1⟩ := at_nil h rfl
    obtain ⟨K, rfl⟩ := Int.eq_ofNat_of_zero_le k0
    simp only [List.length_cons] at hL
    by_cases hk : (32 : Int) < K
    · refine (refGet_large b off L c K w (by omega) c0 hk).mono ?_
      rintro e w' ⟨rfl, rfl⟩
      refine ⟨Below.refl _ _, ?_⟩
      rw [show getRow ((K : Int) :: t) = none by simp only [getRow, if_pos hk]]
    · exact refGet_some _ L c K t w h hL hc h63 (by omega)
theorem refGet_any (A : Option Addr) (L c : Nat) (bs : List Int) (w : World) (h : BytesAt w A bs) (hL : bs.length = L) (hc : L ≤ c) (h63 : L ≤ 9223372036854775807) :
    Calls Tryz.prog 48 #[.slice A L c] w (RefGetEnd w (getRow bs)) :=
  (refGet_anyT A L c bs w h hL hc h63).mono fun _ _ h => h.plain

end Go.Proofs.YtmjckdgomlppeaaGreatDoor
end
section
namespace Go.Proofs.YtmjckdgomlppeaaGreatDoor
open Go.RowKit Go.Shelf

def RefRowsEnd (w : World) (o : Option (List (List Va))) (e : Ending) (w' : World) : Prop :=
  Below w.heap.size w w' ∧ match o with
  | some rs => ∃ A c, e = .returned (.tuple #[.slice A rs.length c, .bool true]) ∧ RowsAt w' A rs ∧ (A = none → c = 0) ∧ ListOwn w' 0 (.slice A rs.length c) rs ∧ allOk rs
  | none => e = .returned (.tuple #[.slice none 0 0, .bool false])
def afterM (rs0 : List (List Va)) : Option (List (List Va)) → Option (List (List Va))
  | none => none
  | some rs => some (rs0 ++ rs)
theorem afterM_none {p : List Int} {k e : Nat} (rs0 : List (List Va)) (he : e ≤ 256) (h : getRow (p.drop e) = none) : afterM rs0 (refL p (k + 1) e) = none := by
  rw [refL, if_neg (by omega), h]; rfl
theorem afterM_some {p : List Int} {k e : Nat} (rs0 : List (List Va)) {r : List Va} {n : Nat} (he : e ≤ 256) (h : getRow (p.drop e) = some (r, n)) : afterM rs0 (refL p (k + 1) e) = afterM (rs0 ++ [r]) (refL p k (e + n)) := by
  rw [refL, if_neg (by omega), h]; simp only
  cases refL p k (e + n) with
  | none => rfl
  | some q => simp [afterM]
theorem nums_inj {a b : List Int} (ha : ∀ x ∈ a, 0 ≤ x ∧ x < 256) (hb : ∀ x ∈ b, 0 ≤ x ∧ x < 256) (h : strOfNums a = strOfNums b) : a = b := by
  rw [← strB_strOfNums a ha, h, strB_strOfNums b hb]

theorem toList_loop (b : ByteArray) : ∀ (k i : Nat) (r : List UInt8), b.size - i = k → ByteArray.toList.loop b i r = r.reverse ++ b.data.toList.drop i := by
  intro k
  induction k with
  | zero =>
    intro i r h
    rw [ByteArray.toList.loop, if_neg (by omega), List.drop_of_length_le (by simp; exact (by omega : b.size ≤ i))]
    simp
  | succ k ih =>
    intro i r h
    have hlt : i < b.size := by omega
    have e := List.drop_eq_getElem_cons (l := b.data.toList) (i := i) (by simpa using hlt)
    rw [ByteArray.toList.loop, if_pos hlt, ih (i + 1) _ (by omega), e]
    simp [ByteArray.get!, getElem!_pos b.data i hlt]
theorem toList_data (b : ByteArray) : b.toList = b.data.toList := by
  unfold ByteArray.toList
  rw [toList_loop b _ 0 [] rfl]
  simp
theorem str_inj {a b : ByteArray} (h : a.toList = b.toList) : a = b := by
  rw [toList_data, toList_data] at h
  cases a; cases b
  simp at h
  rw [h]
theorem str_ne {a b : ByteArray} (h : a ≠ b) : (a.toList == b.toList) = false := by
  rw [beq_eq_false_iff_ne]; exact fun hh => h (str_inj hh)

set_option maxHeartbeats 400000 in
theorem refRows_len (A : Option Addr) (L c : Nat) (w : World) (hL : L ≠ 256) :
    Calls Tryz.prog 26 #[.slice A L c] w (RefRowsEnd w none) := by
  have h1 : ((L : Int) != 256) = true := by rw [bne_iff_ne]; omega
  go_enter Tryz.func26, Tryz.ntmps26
  go_wp2_with fail
  go_ret2
  exact ⟨Below.refl _ _, rfl⟩

set_option maxRecDepth 100000 in
set_option maxHeartbeats 4000000 in
theorem refRows_do (A : Option Addr) (c K : Nat) (p : List Int) (w : World) (h : BytesAt w A p) (hl : p.length = 256) (hc : 256 ≤ c) (hp0 : p.getD 0 0 = (K : Int)) (hK : K ≤ 255) :
    Calls Tryz.prog 26 #[.slice A 256 c] w (RefRowsEnd w (refP p)) := by
  obtain ⟨b, off, rfl, hb, c0, x0, x1⟩ := h.at (getD_at p 0 (by omega))
  rw [Nat.add_zero, hp0] at c0
  have hO : refP p = match refL p K 1 with
      | none => none
      | some rs => if fitsP rs = true ∧ makeP rs = p then some rs else none := by
    unfold refP
    rw [if_pos hl, hp0, Int.toNat_natCast]
    cases refL p K 1 <;> rfl
  generalize refP p = res at hO ⊢
  have HO := Lib.hid hO
  have HH := Lib.hid h
  have HL := Lib.hid hl
  have hcW := Lib.hid c0
  clear h hl hO x0 x1 hp0 c0
  go_enter Tryz.func26, Tryz.ntmps26
  go_wp2_with fail
  go_loopw [4, 5, 6] (fun v s i wr => ∃ (j e : Nat) (rs0 : List (List Va)), j ≤ K ∧ i = .int .i64 j ∧ s = .int .i64 e ∧ e ≤ 256 ∧ 1 ≤ e ∧ rs0.length = j ∧ Hid (ListOwn wr 0 v rs0) ∧ Hid (∀ k, v.ownBlock = some k → w.heap.size ≤ k) ∧ Hid (Below w.heap.size w wr) ∧ Hid (allOk rs0) ∧ Hid (refL p K 1 = afterM rs0 (refL p (K - j) e))) (fun _ _ i _ => K - (intOf i).toNat)
  case atStart => exact ⟨0, 1, [], Nat.zero_le _, rfl, rfl, by omega, Nat.le_refl _, rfl, Lib.hid (ListOwn.nil _ _), Lib.hid (fun k hk => by cases hk), Lib.hid (Below.refl _ _), Lib.hid (fun r hr => by cases hr), Lib.hid (by simp [afterM]; cases refL p K 1 <;> rfl)⟩
  case round =>
    obtain ⟨j, e, rs0, hj, rfl, rfl, he, he1, hrl, HOw, HOB, HBw, HKr, HEq⟩ := hrel
    have HRl := Lib.hid hrl
    clear hrl
    have c0 := cell_kept HBw.out hcW.out
    by_cases hlt : j < K
    · have hsl := run_from (some ⟨b, off, none⟩) 256 c e he
      have hbd := (HH.out.kept HBw.out).drop c e (by rw [HL.out]; omega)
      have hbl : (p.drop e).length = 256 - e := by rw [List.length_drop, HL.out]
      have hgt := refGet_anyT _ (256 - e) (c - e) _ wr hbd hbl (by omega) (by omega)
      have hrt := HEq.out
      rw [show K - j = K - (j + 1) + 1 by omega] at hrt
      generalize adv (some ⟨b, off, none⟩) c e = A' at hsl hbd hgt
      have hszw := HBw.out.size
      cases hv : getRow (p.drop e) with
      | none =>
        have HE := Lib.hid (show res = none by rw [HO.out, hrt.trans (afterM_none rs0 he hv)])
        rw [hv] at hgt
        have HG := Lib.hid hgt
        clear hgt hv hrt hbd hbl
        go_wp2_with fail
        refine HG.out.mono ?_
        rintro e2 w2 ⟨hb2, rfl⟩
        have HB2 := Lib.hid (bt HBw.out hb2)
        clear hb2
        go_wp2_with fail
        go_ret2
        refine ⟨HB2.out, ?_⟩
        rw [HE.out]
        rfl
      | some q =>
        obtain ⟨r, n⟩ := q
        obtain ⟨hok, hput, hn, hn1⟩ := getRow_some hbd.2 hv
        rw [hbl] at hn
        rw [hv] at hgt
        have HG := Lib.hid hgt
        have HE := Lib.hid (hrt.trans (afterM_some rs0 he hv))
        have HKn := Lib.hid (show allOk (rs0 ++ [r]) from fun x hx => by
          rcases List.mem_append.1 hx with hx | hx
          · exact HKr.out x hx
          · simp at hx; subst hx; exact hok)
        clear hgt hv hrt hbd hbl hok hput
        go_wp2_with fail
        refine HG.out.mono ?_
        rintro e2 w2 ⟨hb2, A2, c2, rfl, hr2, hA2, ht2⟩
        have HEl := Lib.hid (show ElemAt w2 0 A2 r from ⟨hr2, fun _ b' off' hb' => .inr (ht2 b' off' hb')⟩)
        have HA2 := Lib.hid hA2
        have HOw := Lib.hid (HOw.out.kept (Nat.zero_le _) hb2)
        have HBw := Lib.hid (bt HBw.out hb2)
        have hsz2 := HBw.out.size
        clear hb2 hr2 hA2 ht2 c0
        go_wp2_with (at_builtin; refine wpList_pushL rfl (.tmp 35) (.tmp 37) rfl u4 rs0 A2 c2 r _ 0 w2.heap.size rfl rfl (HOw.out.kept (Nat.zero_le _) (ba _ _)) (HEl.out.alloc (Nat.zero_le _) _) HA2.out (heap_alloc_new _ _) ?c1 ?c2 ?_)
        case c1 => exact Nat.zero_le _
        case c2 => rw [HRl.out]; omega
        intro g9 cap9 w9 hlo9 hgr9 hat9 _
        have HOn := Lib.hid hlo9
        have HBn := Lib.hid ((bt HBw.out (ba w2 _)).grown hgr9 (by simp; omega) HOB.out)
        have HOBn := Lib.hid (show ∀ k, (Value.slice (some ⟨g9, 0, none⟩) (rs0.length + 1) cap9).ownBlock = some k → w.heap.size ≤ k from fun k hk => by
          cases hk
          rcases hat9 with hh | hh
          · exact HOB.out _ hh
          · rw [hh]; simp; omega)
        clear hlo9 hgr9 hat9
        go_wp2_with fail
        go_roundw
        case rel => exact ⟨j + 1, e + n, rs0 ++ [r], by omega, by go_num, by go_num, by omega, by omega, by simp [HRl.out], HOn, HOBn, HBn, HKn, HE⟩
        case measure => simp [intOf]; omega
    · obtain rfl : j = K := by omega
      have hfin := HEq.out
      rw [Nat.sub_self] at hfin
      have hfin2 : refL p j 1 = some rs0 := by rw [hfin]; simp [refL, afterM]
      have hres := HO.out
      rw [hfin2] at hres
      simp only at hres
      have HRes := Lib.hid hres
      clear hfin hfin2 hres
      obtain ⟨A9, c9, rfl, hr9, hA9, hc9⟩ := own_end HOw.out
      have HR9 := Lib.hid hr9
      have HA9 := Lib.hid hA9
      clear hr9 hA9 hc9
      rw [HRl.out]
      go_wp2_with fail
      refine (make_any A9 c9 j rs0 wr HR9.out HRl.out HKr.out (by omega)).mono ?_
      rintro e2 w2 ⟨hb2, he2⟩
      have HBw := Lib.hid (bt HBw.out hb2)
      have HR9 := Lib.hid (HR9.out.kept hb2)
      have HOw := Lib.hid (HOw.out.kept (Nat.zero_le _) hb2)
      by_cases hfit : fitsP rs0 = true
      · rw [if_pos hfit] at he2
        obtain ⟨g, cap, rfl, hbuf⟩ := he2
        have hby := makeP_byte HKr.out hfit
        have hq := hbuf.bytes hby
        have hpw := HH.out.kept HBw.out
        have HFt := Lib.hid hfit
        have HQ := Lib.hid (str_atc hq (makeP_len hfit) cap)
        have HP := Lib.hid (str_atc hpw HL.out c)
        have HIn := Lib.hid (nums_inj hby hpw.2)
        clear hb2 hfit hbuf hby hq hpw c0
        have hcv1 := HQ.out
        have hcv2 := HP.out
        clear HQ HP
        by_cases hm : makeP rs0 = p
        · have HE := Lib.hid (show res = some rs0 by rw [HRes.out, if_pos ⟨HFt.out, hm⟩])
          rw [hm] at hcv1
          generalize strOfNums p = X at hcv1 hcv2
          clear hm
          go_wp2_with fail
          go_ret2
          refine ⟨HBw.out, ?_⟩
          rw [HE.out]
          exact ⟨A9, c9, by simp [HRl.out], HR9.out, HA9.out, by rw [HRl.out]; simpa [HRl.out] using HOw.out, HKr.out⟩
        · have HE := Lib.hid (show res = none by rw [HRes.out, if_neg (fun hh => hm hh.2)])
          have hne : ((strOfNums (makeP rs0)).toList == (strOfNums p).toList) = false := str_ne (fun hh => hm (HIn.out hh))
          generalize strOfNums (makeP rs0) = X at hcv1 hne
          generalize strOfNums p = Y at hcv2 hne
          clear hm HIn
          go_wp2_with fail
          go_ret2
          refine ⟨HBw.out, ?_⟩
          rw [HE.out]
          rfl
      · rw [if_neg hfit] at he2
        subst he2
        have HE := Lib.hid (show res = none by rw [HRes.out, if_neg (fun hh => hfit hh.1)])
        clear hb2 hfit
        go_wp2_with fail
        go_ret2
        refine ⟨HBw.out, ?_⟩
        rw [HE.out]
        rfl

theorem refRows_any (A : Option Addr) (L c : Nat) (p : List Int) (w : World) (h : BytesAt w A p) (hL : p.length = L) (hc : L ≤ c) :
    Calls Tryz.prog 26 #[.slice A L c] w (RefRowsEnd w (refP p)) := by
  by_cases hl : L = 256
  · subst hl
    have hx := h.2 (p.getD 0 0) (by simp [List.getD, show 0 < p.length by omega])
    obtain ⟨K, hK⟩ := Int.eq_ofNat_of_zero_le hx.1
    exact refRows_do A c K p w h hL hc hK (by omega)
  · rw [show refP p = none by unfold refP; rw [if_neg (by omega)]]
    exact refRows_len A L c w hl
end Go.Proofs.YtmjckdgomlppeaaGreatDoor
end
section
namespace Go.Proofs.YtmjckdgomlppeaaGreatDoor
open Go.RowKit Go.Shelf

/-- The ends of page.Add of a page of rows. -/
def AddMade (w : World) (rs : List (List Va)) (r : List Va) (e : Ending) (w' : World) : Prop :=
  Below w.heap.size w w' ∧ if mayI r = 0 then
    (if fitsP (rs ++ [r]) = true then ∃ g, e = .returned (.tuple #[.slice (some ⟨g, 0, none⟩) 256 256, .int .i64 0]) ∧ w.heap.size ≤ g ∧ OwnB w' g (makeP (rs ++ [r])) else e = .returned (.tuple #[.slice none 0 0, .int .i64 2]))
  else e = .returned (.tuple #[.slice none 0 0, .int .i64 (mayI r)])
def rowP : List Va := [⟨2, 5, ⟨#[]⟩⟩]
theorem rowP_ok : okR rowP = true := by decide +kernel
theorem rowP_len : rowP.length ≤ 9223372036854775807 := by simp [rowP]
theorem rowP_may : mayI rowP = 0 ∧ mayI [] = 0 := by decide +kernel
theorem rowP_fine : Fine rowP := by
  intro v hv
  simp [rowP] at hv
  subst hv
  decide
theorem rowP_new (w : World) (n : Nat) (hn : w.heap.size = n) : RowAt (w.alloc (.cells #[.int .i64 2, .int .i64 5, .string ⟨#[]⟩] 69)) (some ⟨n, 0, none⟩) rowP := by
  subst hn; exact (Own.new w 69 rowP).row
theorem rowsP_new (w : World) (g n : Nat) (hn : w.heap.size = n) (hr : RowAt w (some ⟨g, 0, none⟩) rowP) :
    RowsAt (w.alloc (.cells #[.slice (some ⟨g, 0, none⟩) 1 1, .slice (some ⟨g, 0, none⟩) 1 1] 38)) (some ⟨n, 0, none⟩) [rowP, rowP] := by
  subst hn
  refine .inr ⟨_, 0, rfl, by simp, fun i r hr' => ?_⟩
  match i, hr' with
  | 0, hr' => cases hr'; exact ⟨_, 1, by simp; rfl, hr.kept (ba _ _), fun hh => by cases hh⟩
  | 1, hr' => cases hr'; exact ⟨_, 1, by simp; rfl, hr.kept (ba _ _), fun hh => by cases hh⟩
theorem fits_live : fitsP [rowP] = true ∧ fitsP [rowP, []] = true ∧ fillP [rowP, rowP] = [[rowP, rowP]] ∧ badP [rowP, rowP] = 0 :=
  ⟨by decide +kernel, by decide +kernel, (show addG ([] ++ [[rowP]]) rowP = [] ++ [[rowP] ++ [rowP]] from addG_in (by decide +kernel)), by decide +kernel⟩
theorem page_live : (makeP [rowP, []]).getD 0 0 = 2 ∧ (makeP [rowP, []]).getD 255 0 = 1 ∧ (makeP [rowP, []]).getD 253 0 = 10 ∧ 1 + lenP [rowP, []] = 11 := by decide +kernel
theorem ok_live : allOk [] ∧ allOk [rowP] ∧ allOk [rowP, []] ∧ GoodG [[rowP, rowP]] := by
  have h : okR [] = true := by decide +kernel
  refine ⟨fun r hr => (by cases hr), fun r hr => ?_, fun r hr => ?_, fun p hp => ?_⟩
  · simp at hr; subst hr; exact rowP_ok
  · simp at hr; rcases hr with rfl | rfl
    · exact rowP_ok
    · exact h
  · simp at hp
    subst hp
    refine ⟨by decide +kernel, fun r hr => ?_, by simp⟩
    simp at hr; subst hr; exact rowP_ok
theorem zero_make : zeroP = makeP [] := make_nil.symm
theorem OwnB.zero {w : World} {g : Nat} (h : OwnB w g zeroP) : BytesAt w (some ⟨g, 0, none⟩) (makeP []) := by
  rw [← zero_make]
  exact h.bytes (by intro x hx; obtain ⟨_, rfl⟩ := List.mem_replicate.1 hx; omega)
theorem open_nil : openP [] = none := by decide

end Go.Proofs.YtmjckdgomlppeaaGreatDoor
end
section
namespace Go.Proofs.YtmjckdgomlppeaaGreatDoor
open Go.RowKit Go.Shelf

/-- append(empty, rows...), the block of the empty list known. -/
theorem run_appE (ty : TypeId) (n : Nat) (A : Option Addr) (c L : Nat) (rs : List (List Va)) (W : World) (B : Nat) (hE : W.heap[n]? = some (.cells #[] 38 (0, 0))) (hn : B ≤ n) (hL : rs.length = L) (hr : RowsIn W B A rs) (hA : A = none → c = 0) (hB : B ≤ W.heap.size) (hl : L ≤ 65536) :
    ∃ v' w', (Builtin.append_ #[27, 27] ty #[.slice (some ⟨n, 0, none⟩) 0 0, .slice A L c]).run Tryz.prog W = .ok v' w' ∧ ListOwn w' B v' rs ∧ Grows B W w' ∧ W.grownBy w' (some n) := by
  subst hL
  obtain ⟨i0, hi, hz0, hz1, hz2⟩ := info_parts info_rowT
  have hown : W.ownsRow B 38 1 (.slice (some ⟨n, 0, none⟩) 0 0) 0 [] := ⟨rfl, .inr ⟨n, 0, #[], rfl, hn, hE, Nat.le_refl _, Nat.zero_le _, rfl, rfl⟩⟩
  cases A with
  | none =>
    have hc := hA rfl
    subst hc
    have hrs : rs = [] := by
      rcases hr with h | ⟨_, _, _, h, _⟩
      · exact h
      · cases h
    subst hrs
    have h := run_append_owned_none (P := Tryz.prog) (w := W) B 27 ty 38 i0 1 Tryz.underlying27 hi (.slice (some ⟨n, 0, none⟩) 0 0) 0 [] hown
    exact ⟨_, W, h, ⟨[], hown, Elems.nil _ _⟩, Grows.refl _ _, ⟨rfl, rfl, rfl, Nat.le_refl _, fun _ _ _ => rfl⟩⟩
  | some ad =>
    have hys : ∃ ys, Elems W B ys rs ∧ ∀ j u, ys[j]? = some u → W.cell? (ad.add j) = some u := by
      rcases hr with h | ⟨b, off, ys, h, hlt, hc, he⟩
      · subst h; exact ⟨[], Elems.nil _ _, fun j u h => by simp at h⟩
      · cases h
        refine ⟨ys, he, fun j u hu => ?_⟩
        have hadd : (⟨b, off, none⟩ : Addr).add j = ⟨b, off + j, none⟩ := by unfold Addr.add; split <;> simp_all
        rw [hadd]; exact hc j u hu
    obtain ⟨ys, he, hcell⟩ := hys
    obtain ⟨v', w', h, hown', hgr, _⟩ := run_append_own (P := Tryz.prog) W B 27 ty 38 i0 _ 1 24 Tryz.underlying27 hi hz0 hz1 hz2 rfl (by decide) (.slice (some ⟨n, 0, none⟩) 0 0) 0 [] hown ad rs.length c ys (by rw [he.1]; simp) hcell (oneCell_elems he) (by simp [maxLen]; omega) (by omega) hB
    have hgr' : W.grownBy w' (some n) := hgr
    have hG : Grows B W w' := Grows.grown hB hgr (fun k hk => by
      obtain ⟨hb, cs, fr, hcs⟩ := owns_typed hown k hk
      exact ⟨hb, cs, _, fr, hcs, by decide⟩)
    exact ⟨v', w', h, ⟨ys, by simpa using hown', he.kept hG⟩, hG, hgr'⟩
theorem step_appE {ops : Array Oper} {o : Oper} {a : Act} {K : Act → World → Prop} {Q : Exit → Act → World → Prop} {E : Prop} (hgd : o.guard = none) (s x : Operand)
    (ho : o.op = .call { callee := .builtin .append, args := #[s, x], argTypes := #[27, 27] }) (n : Nat) (A : Option Addr) (c L : Nat) (rs : List (List Va)) (W : World) (B : Nat) (hs : a.eval s = .slice (some ⟨n, 0, none⟩) 0 0) (hx : a.eval x = .slice A L c) (hE : W.heap[n]? = some (.cells #[] 38 (0, 0))) (hn : B ≤ n) (hL : rs.length = L) (hr : RowsIn W B A rs) (hA : A = none → c = 0) (hB : B ≤ W.heap.size) (hl : L ≤ 65536)
    (h : ∀ v' w', ListOwn w' B v' rs → Grows B W w' → W.grownBy w' (some n) → K (a.put o.dst v') w') :
    if Region.wanted o (yielded ops a.tmps) = true then Oper.wp Tryz.prog o a W K Q else E := by
  have hw : Region.wanted o (yielded ops a.tmps) = true := by simp [Region.wanted, hgd]
  rw [if_pos hw]
  obtain ⟨v', w', hr', h2, h3, h4⟩ := run_appE o.type n A c L rs W B hE hn hL hr hA hB hl
  unfold Oper.wp execOp
  simp only [ho, resolve, invoke, builtin, Sem.run_bind, Sem.run_pure, Result.andThen_ok, List.map_toArray, List.map_cons, List.map_nil, hs, hx, hr']
  exact h v' w' h2 h3 h4
theorem RowsIn.heap {w w' : World} {B : Nat} {A : Option Addr} {rs : List (List Va)} (h : RowsIn w B A rs) (hh : w'.heap = w.heap) : RowsIn w' B A rs := by
  have e1 : ∀ p, w'.cell? p = w.cell? p := fun p => World.cell?_of_block (by rw [hh])
  rcases h with h | ⟨b, off, xs, hA, hlt, hc, he⟩
  · exact .inl h
  · refine .inr ⟨b, off, xs, hA, by rw [hh]; exact hlt, fun i v hv => (e1 _).trans (hc i v hv), he.1, fun k r hr => ?_⟩
    obtain ⟨A', c, h1, ⟨h2, h3⟩, h4⟩ := he.2 k r hr
    refine ⟨A', c, h1, ⟨?_, fun hne b off hA => by rw [hh]; exact h3 hne b off hA⟩, h4⟩
    rcases h2 with h2 | ⟨b', off', e, hl', hc'⟩
    · exact .inl h2
    · exact .inr ⟨b', off', e, by rw [hh]; exact hl', fun i v hv => by
        obtain ⟨c0, c1, c2⟩ := hc' i v hv
        exact ⟨(e1 _).trans c0, (e1 _).trans c1, (e1 _).trans c2⟩⟩
theorem two_new (w : World) (o1 o2 : Obj) : ((w.alloc o1).alloc o2).heap[w.heap.size]? = some o1 ∧ ((w.alloc o1).alloc o2).heap[w.heap.size + 1]? = some o2 := by
  constructor
  · rw [(ba (w.alloc o1) o2).block w.heap.size (by simp)]
    exact heap_alloc_new w o1
  · have := heap_alloc_new (w.alloc o1) o2
    rwa [World.size_alloc] at this
end Go.Proofs.YtmjckdgomlppeaaGreatDoor
end
section
namespace Go.Proofs.YtmjckdgomlppeaaGreatDoor
open Go.RowKit Go.Shelf

/-- A list of lists of rows of the call's own. -/
def Grps (w : World) (B : Nat) (v : Value) (gs : List (List (List Va))) : Prop :=
  ∃ vs : List Value, w.ownsRow B 27 1 v gs.length vs ∧ vs.length = gs.length ∧ ∀ (k : Nat) (u : Value) (p : List (List Va)), vs[k]? = some u → gs[k]? = some p → ListOwn w B u p
theorem Grps.nil (w : World) (B : Nat) : Grps w B (.slice none 0 0) [] := ⟨[], World.ownsRow_nil _ _ _ _, rfl, fun k u p h => by simp at h⟩
theorem Grps.kept {w w' : World} {B : Nat} {v : Value} {gs : List (List (List Va))} (h : Grps w B v gs) (hB : B ≤ w.heap.size) (hb : Below w.heap.size w w') : Grps w' B v gs := by
  obtain ⟨vs, h1, h2, h3⟩ := h
  exact ⟨vs, owns_same h1 (fun k hk => hb.block k (h1.lt k hk).2), h2, fun k u p hu hp => (h3 k u p hu hp).kept hB hb⟩
theorem Grps.load {w : World} {B : Nat} {v : Value} {gs : List (List (List Va))} (h : Grps w B v gs) {k : Nat} (hk : k < gs.length) :
    ∃ g cap, v = .slice (some ⟨g, 0, none⟩) gs.length cap ∧ w.frozen? ⟨g, k, none⟩ = false ∧ (∃ cs fr, w.heap[g]? = some (.cells cs 27 fr)) ∧ B ≤ g ∧ ∃ A c, w.cell? ⟨g, k, none⟩ = some (.slice A gs[k].length c) ∧ ListOwn w B (.slice A gs[k].length c) gs[k] := by
  obtain ⟨vs, h1, h2, h3⟩ := h
  have hkv : k < vs.length := by omega
  have hl := h3 k _ _ (List.getElem?_eq_getElem hkv) (List.getElem?_eq_getElem hk)
  have hty := owns_typed h1
  rcases h1.2 with ⟨_, hn⟩ | ⟨g, cap, cur, rfl, hb, hg, h4, _, h5, ht⟩
  · omega
  · refine ⟨g, cap, rfl, h1.frozenAt k, (hty g rfl).2, hb, ?_⟩
    obtain ⟨A, c, e, hr, hA⟩ := hl.inB
    have hc := h1.cellAt k (by omega)
    rw [List.getElem?_eq_getElem hkv, e] at hc
    rw [e] at hl
    exact ⟨A, c, hc, hl⟩
theorem Grps.form {w : World} {B : Nat} {v : Value} {gs : List (List (List Va))} (h : Grps w B v gs) : ∃ A c, v = .slice A gs.length c ∧ (A = none → c = 0) ∧ gs.length ≤ c := by
  obtain ⟨vs, h1, h2, h3⟩ := h
  rcases h1.2 with ⟨hv, hn⟩ | ⟨g, cap, cur, hv, hb, hg, h4, _⟩
  · exact ⟨none, 0, by rw [hn]; exact hv, fun _ => rfl, by omega⟩
  · exact ⟨some ⟨g, 0, none⟩, cap, hv, (fun hh => by cases hh), h4⟩
/-- A list among them is set. -/
theorem Grps.store {w : World} {B g cap k : Nat} {u : Value} {gs : List (List (List Va))} {p : List (List Va)} {n : Nat} (hn : gs.length = n) (h : Grps w B (.slice (some ⟨g, 0, none⟩) n cap) gs) (hu : ListOwn w B u p) :
    Grps (w.setCell ⟨g, k, none⟩ u) B (.slice (some ⟨g, 0, none⟩) n cap) (gs.set k p) ∧ Grows B w (w.setCell ⟨g, k, none⟩ u) := by
  subst hn
  obtain ⟨vs, h1, h2, h3⟩ := h
  obtain ⟨hBg, cs, fr, hg⟩ := owns_typed h1 g rfl
  have hG : Grows B w (w.setCell ⟨g, k, none⟩ u) := Grows.setCell k u hBg hg (by decide)
  have hkeep : ∀ (q : List (List Va)) (x : Value), ListOwn w B x q → ListOwn (w.setCell ⟨g, k, none⟩ u) B x q := fun q x hx => hx.same hG (fun b hb => by
    obtain ⟨xs, ho, _⟩ := hx
    obtain ⟨_, cs', fr', hb'⟩ := owns_typed ho b hb
    refine Below.heap_setCell w _ _ b (fun e => ?_)
    subst e
    rw [hg] at hb'
    cases hb')
  refine ⟨⟨vs.set k u, by simpa using (h1.stored k u).1, by simp [h2], fun i x q hx hq => ?_⟩, hG⟩
  by_cases e : k = i
  · subst e
    have hkl := (List.getElem?_eq_some_iff.1 hx).1
    simp at hkl
    simp [hkl] at hx
    simp [show k < gs.length by omega] at hq
    subst hx
    subst hq
    exact hkeep _ _ hu
  · rw [List.getElem?_set_ne e] at hx hq
    exact hkeep _ _ (h3 i x q hx hq)
/-- A list more. -/
theorem run_pushG (ty : TypeId) (v : Value) (gs : List (List (List Va))) (u : Value) (p : List (List Va)) (W : World) (B nb : Nat) (hv : Grps W B v gs) (hu : ListOwn W B u p) (hnb : W.heap[nb]? = some (.cells #[u] 27 (0, 0))) (hB : B ≤ W.heap.size) (hl : gs.length ≤ 65536) :
    ∃ v' w', (Builtin.append_ #[51, 51] ty #[v, .slice (some ⟨nb, 0, none⟩) 1 1]).run Tryz.prog W = .ok v' w' ∧ Grps w' B v' (gs ++ [p]) ∧ Grows B W w' := by
  obtain ⟨i0, hi, hz0, hz1, hz2⟩ := info_parts info_listT
  obtain ⟨vs, h1, h2, h3⟩ := hv
  obtain ⟨A, c, hue, _, _⟩ := hu.inB
  obtain ⟨g, cap, w', h, hown', hgr, hat, hlt⟩ := run_append_lies (P := Tryz.prog) W 51 ty B 27 i0 _ 1 24 Tryz.underlying51 hi hz0 hz1 hz2 rfl (by decide) v gs.length vs h1 ⟨nb, 0, none⟩ 1 1 [u] rfl (World.news_of_block hnb) (by rw [hue]; simp [Value.oneCell']) (by omega) (by simp [maxLen]; omega) (by omega) hB _ rfl
  have hG : Grows B W w' := Grows.grown hB hgr (fun k hk => by
    obtain ⟨hb, cs, fr, hcs⟩ := owns_typed h1 k hk
    exact ⟨hb, cs, _, fr, hcs, by decide⟩)
  have hkeep : ∀ (q : List (List Va)) (x : Value), ListOwn W B x q → ListOwn w' B x q := fun q x hx => hx.same hG (fun b hb => by
    obtain ⟨xs, ho, _⟩ := hx
    obtain ⟨_, cs', fr', hb'⟩ := owns_typed ho b hb
    refine hgr.block b (lt_of_block hb') (fun e => ?_)
    obtain ⟨_, cs, fr, hcs⟩ := owns_typed h1 b e.symm
    rw [hcs] at hb'
    cases hb')
  refine ⟨_, w', h, ⟨vs ++ [u], by simpa using hown', by simp [h2], fun i x q hx hq => ?_⟩, hG⟩
  by_cases hil : i < vs.length
  · rw [List.getElem?_append_left hil] at hx
    rw [List.getElem?_append_left (by omega)] at hq
    exact hkeep _ _ (h3 i x q hx hq)
  · have hii : i = vs.length := by
      have := (List.getElem?_eq_some_iff.1 hx).1
      simp at this; omega
    subst hii
    simp at hx
    rw [h2] at hq
    simp at hq
    subst hx
    subst hq
    exact hkeep _ _ hu
theorem wpList_pushG {ops : Array Oper} {rest : List Oper} {o : Oper} {a : Act} {Q : Exit → Act → World → Prop} (hgd : o.guard = none) (s x : Operand)
    (ho : o.op = .call { callee := .builtin .append, args := #[s, x], argTypes := #[51, 51] }) (v : Value) (gs : List (List (List Va))) (u : Value) (p : List (List Va)) (W : World) (B nb : Nat) (hs : a.eval s = v) (hx : a.eval x = .slice (some ⟨nb, 0, none⟩) 1 1) (hv : Grps W B v gs) (hu : ListOwn W B u p) (hnb : W.heap[nb]? = some (.cells #[u] 27 (0, 0))) (hB : B ≤ W.heap.size) (hl : gs.length ≤ 65536)
    (h : ∀ v' w', Grps w' B v' (gs ++ [p]) → Grows B W w' → wpList Tryz.prog ops Q rest (a.put o.dst v') w') :
    wpList Tryz.prog ops Q (o :: rest) a W := by
  refine wpList_plain hgd fun K hK => ?_
  obtain ⟨v', w', hr', h2, h3⟩ := run_pushG o.type v gs u p W B nb hv hu hnb hB hl
  unfold Oper.wp execOp
  simp only [ho, resolve, invoke, builtin, Sem.run_bind, Sem.run_pure, Result.andThen_ok, List.map_toArray, List.map_cons, List.map_nil, hs, hx, hr']
  exact hK _ _ (h v' w' h2 h3)

/-- append(empty, rows...) of some rows: where it lies. -/
theorem run_appF (ty : TypeId) (n : Nat) (A : Option Addr) (c L : Nat) (rs : List (List Va)) (W : World) (B : Nat) (hE : W.heap[n]? = some (.cells #[] 38 (0, 0))) (hn : B ≤ n) (hL : rs.length = L) (h0 : 0 < L) (hr : RowsIn W B A rs) (hB : B ≤ W.heap.size) (hl : L ≤ 65536) :
    ∃ g cap w', (Builtin.append_ #[27, 27] ty #[.slice (some ⟨n, 0, none⟩) 0 0, .slice A L c]).run Tryz.prog W = .ok (.slice (some ⟨g, 0, none⟩) L cap) w' ∧ ListOwn w' B (.slice (some ⟨g, 0, none⟩) L cap) rs ∧ Grows B W w' ∧ W.grownBy w' (some n) ∧ (g = n ∨ g = W.heap.size) := by
  subst hL
  obtain ⟨i0, hi, hz0, hz1, hz2⟩ := info_parts info_rowT
  have hown : W.ownsRow B 38 1 (.slice (some ⟨n, 0, none⟩) 0 0) 0 [] := ⟨rfl, .inr ⟨n, 0, #[], rfl, hn, hE, Nat.le_refl _, Nat.zero_le _, rfl, rfl⟩⟩
  rcases hr with hr | ⟨b, off, ys, rfl, hlt, hc, he⟩
  · subst hr; simp at h0
  · obtain ⟨g, cap, w', h, hown', hgr, hat, _⟩ := run_append_lies (P := Tryz.prog) W 27 ty B 38 i0 _ 1 24 Tryz.underlying27 hi hz0 hz1 hz2 rfl (by decide) (.slice (some ⟨n, 0, none⟩) 0 0) 0 [] hown ⟨b, off, none⟩ rs.length c ys (by rw [he.1]; simp) (fun i u hu => by
        have hadd : (⟨b, off, none⟩ : Addr).add i = ⟨b, off + i, none⟩ := by unfold Addr.add; split <;> simp_all
        rw [hadd]; exact hc i u hu) (oneCell_elems he) h0 (by simp [maxLen]; omega) (by omega) hB _ rfl
    have hG : Grows B W w' := Grows.grown hB hgr (fun k hk => by
      obtain ⟨hb, cs, fr, hcs⟩ := owns_typed hown k hk
      exact ⟨hb, cs, _, fr, hcs, by decide⟩)
    refine ⟨g, cap, w', by simpa using h, ⟨ys, by simpa using hown', he.kept hG⟩, hG, hgr, ?_⟩
    rcases hat with hat | hat
    · simp [Value.ownBlock] at hat; exact .inl hat.symm
    · exact .inr hat
theorem step_appF {ops : Array Oper} {o : Oper} {a : Act} {K : Act → World → Prop} {Q : Exit → Act → World → Prop} {E : Prop} (hgd : o.guard = none) (s x : Operand)
    (ho : o.op = .call { callee := .builtin .append, args := #[s, x], argTypes := #[27, 27] }) (n : Nat) (A : Option Addr) (c L : Nat) (rs : List (List Va)) (W : World) (B : Nat) (hs : a.eval s = .slice (some ⟨n, 0, none⟩) 0 0) (hx : a.eval x = .slice A L c) (hE : W.heap[n]? = some (.cells #[] 38 (0, 0))) (hn : B ≤ n) (hL : rs.length = L) (h0 : 0 < L) (hr : RowsIn W B A rs) (hB : B ≤ W.heap.size) (hl : L ≤ 65536)
    (h : ∀ g cap w', ListOwn w' B (.slice (some ⟨g, 0, none⟩) L cap) rs → Grows B W w' → W.grownBy w' (some n) → (g = n ∨ g = W.heap.size) → K (a.put o.dst (.slice (some ⟨g, 0, none⟩) L cap)) w') :
    if Region.wanted o (yielded ops a.tmps) = true then Oper.wp Tryz.prog o a W K Q else E := by
  have hw : Region.wanted o (yielded ops a.tmps) = true := by simp [Region.wanted, hgd]
  rw [if_pos hw]
  obtain ⟨g, cap, w', hr', h2, h3, h4, h5⟩ := run_appF o.type n A c L rs W B hE hn hL h0 hr hB hl
  unfold Oper.wp execOp
  simp only [ho, resolve, invoke, builtin, Sem.run_bind, Sem.run_pure, Result.andThen_ok, List.map_toArray, List.map_cons, List.map_nil, hs, hx, hr']
  exact h g cap w' h2 h3 h4 h5
end Go.Proofs.YtmjckdgomlppeaaGreatDoor
end
section
namespace Go.Proofs.YtmjckdgomlppeaaGreatDoor
open Go.RowKit Go.Shelf

def RefFillEnd (w : World) (rs : List (List Va)) (e : Ending) (w' : World) : Prop := ∃ v, e = .returned v ∧ Grps w' w.heap.size v (fillP rs) ∧ Below w.heap.size w w'
theorem fits_used {p : List (List Va)} (h : fitsP p = true) : 1 + lenP p + 2 * p.length ≤ 256 := (fitsP_parts h).2.1
theorem fits_no {p : List (List Va)} (h : fitsP p = false) (hl : p.length ≤ 255) : 256 < 1 + lenP p + 2 * p.length := by
  unfold fitsP at h
  simp at h
  exact h hl

theorem own_rowsF {w : World} {B n c : Nat} {A : Option Addr} {p : List (List Va)} (h : ListOwn w B (.slice A n c) p) : RowsAt w A p := by
  obtain ⟨A', c', e, h2⟩ := h.rows
  cases e
  exact h2
theorem own_one {w : World} {B n c : Nat} {A : Option Addr} {r : List Va} (hE : w.heap[n]? = some (.cells #[.slice A r.length c] 38 (0, 0))) (hn : B ≤ n) (he : ElemAt w B A r) (hA : A = none → c = 0) : ListOwn w B (.slice (some ⟨n, 0, none⟩) 1 1) [r] :=
  ⟨[.slice A r.length c], ⟨rfl, .inr ⟨n, 1, #[.slice A r.length c], rfl, hn, hE, Nat.le_refl _, by simp [maxLen], rfl, rfl⟩⟩, (Elems.nil w B).push he hA⟩

set_option maxRecDepth 100000 in
set_option maxHeartbeats 8000000 in
theorem refFill_any (A : Option Addr) (c L : Nat) (rs : List (List Va)) (w : World) (h : RowsAt w A rs) (hL : rs.length = L) (hm : badP rs = 0) (hl : L ≤ 600) :
    Calls Tryz.prog 28 #[.slice A L c] w (RefFillEnd w rs) := by
  have HR := Lib.hid h
  have HL := Lib.hid hL
  have HM := Lib.hid (badP_zero hm)
  clear h hL hm
  go_enter Tryz.func28, Tryz.ntmps28
  go_wp2_with fail
  go_loopw [3, 4] (fun v i wr => ∃ (j : Nat) (gs : List (List (List Va))), j ≤ L ∧ i = .int .i64 j ∧ gs.length ≤ j ∧ Hid (Grps wr w.heap.size v gs) ∧ Hid (gs = fillP (rs.take j)) ∧ Hid (Below w.heap.size w wr)) (fun _ i _ => L - (intOf i).toNat)
  case atStart => exact ⟨0, [], Nat.zero_le _, rfl, Nat.le_refl _, Lib.hid (Grps.nil _ _), Lib.hid rfl, Lib.hid (Below.refl _ _)⟩
  case round =>
    obtain ⟨j, gs, hj, rfl, hgl, HG, HF, HB⟩ := hrel
    by_cases hlt : j < L
    · have hlt' : j < rs.length := by rw [HL.out]; exact hlt
      obtain ⟨b, off, rfl, hbw, A', c', c0, hr, hel, hA'⟩ := HR.out.at HB.out hlt'
      have hmj := HM.out rs[j] (List.getElem_mem hlt')
      have HN := Lib.hid (fillP_take rs j hlt')
      have HGd := Lib.hid (fillP_good (rs := rs.take j) (fun r hr => HM.out r (List.mem_of_mem_take hr))).1
      rw [← HF.out] at HGd
      generalize rs[j] = r at c0 hr hel hmj HN
      obtain ⟨hokr, _⟩ := mayI_ok hmj
      have HA' := Lib.hid hA'
      have HEl := Lib.hid hel
      have hsz := HB.out.size
      clear hr hel hA' hmj
      rcases List.eq_nil_or_concat gs with hnil | ⟨gs0, p, hcc⟩
      · subst hnil
        obtain ⟨A1, c1, rfl, _, _⟩ := HG.out.form
        have HSz := Lib.hid hsz
        go_wp2_with (at_builtin; refine wpList_pushG rfl (.tmp 37) (.tmp 43) rfl _ [] (.slice (some ⟨wr.heap.size, 0, none⟩) 1 1) [r] _ w.heap.size (wr.heap.size + 1) rfl rfl (HG.out.kept HSz.out (bt (ba wr _) (ba _ _))) ?c1 ?c2 ?c3 ?c4 ?_)
        case c1 => exact own_one (two_new wr _ _).1 HSz.out ((HEl.out.alloc HSz.out _).alloc (by have := HSz.out; simp; omega) _) HA'.out
        case c2 => exact (two_new wr _ _).2
        case c3 => have := HSz.out; simp; omega
        case c4 => simp <;> omega
        intro v1 w1 hg1 hG1
        have HG1 := Lib.hid hg1
        have HB1 := Lib.hid ((HB.out.trans ((bt (ba wr _) (ba _ _)).mono HSz.out)).trans hG1.1)
        clear hg1 hG1
        go_wp2_with fail
        go_roundw
        case rel => exact ⟨j + 1, [[r]], by omega, by go_num, by simp, HG1, Lib.hid (by rw [HN.out, ← HF.out]; rfl), HB1⟩
        case measure => simp [intOf]; omega
      · rw [List.concat_eq_append] at hcc
        subst hcc
        obtain ⟨hfp, hokp, hpne⟩ := HGd.out p (by simp)
        have hp85 := (fitsP_parts hfp).2.2
        obtain ⟨g, cap, rfl, hfz, hty, hBg, A0, d0, g0, hlo⟩ := HG.out.load (k := gs0.length) (by simp)
        rw [show (gs0 ++ [p])[gs0.length]'(by simp) = p by simp] at g0 hlo
        have hlen : (gs0 ++ [p]).length = gs0.length + 1 := by simp
        rw [hlen]
        rw [hlen] at HG hgl
        obtain ⟨G, hGl⟩ : ∃ G, G = gs0.length := ⟨_, rfl⟩
        rw [← hGl] at g0 hfz hgl HG ⊢
        obtain ⟨N, hNl⟩ : ∃ N, p.length = N := ⟨_, rfl⟩
        rw [hNl] at g0 hlo hp85
        have HN0 := Lib.hid hNl
        have HGl := Lib.hid hGl
        have hN0 : 0 < N := by rw [← hNl]; exact List.length_pos_iff.2 hpne
        have HLo := Lib.hid hlo
        have HTy := Lib.hid hty
        have HFp := Lib.hid hfp
        have HOkp := Lib.hid hokp
        clear hlo hty hNl hGl hlen hfp hokp hpne
        have hgi0 : (0 : Int) ≤ (G : Int) := Int.natCast_nonneg _
        have hgi1 : (G : Int) < ((G : Int) + 1) := by omega
        go_wp2_with fail
        go_cut [6] from 7 to 44 (fun s wx => ∃ (A1 : Option Addr) (c1 N1 : Nat), s = .slice A1 N1 c1 ∧ N1 ≤ 86 ∧ Hid ((p ++ [r]).length = N1) ∧ Hid (ListOwn wx w.heap.size (.slice A1 N1 c1) (p ++ [r])) ∧ Hid (Below wr.heap.size wr wx))
        case first =>
          have c00 := Lib.hid c0
          have g00 := Lib.hid g0
          have hgw : g < wr.heap.size := by obtain ⟨cs, fr, hcs⟩ := HTy.out; exact lt_of_block hcs
          have hbw2 : b < wr.heap.size := by omega
          have hji0 : (0 : Int) ≤ (j : Int) := Int.natCast_nonneg _
          have hji1 : (j : Int) < (L : Int) := by omega
          have HI0 := Lib.hid (show RowsIn wr w.heap.size A0 p by
            obtain ⟨A3, c3, e3, h3, _⟩ := HLo.out.inB
            cases e3
            exact h3)
          have HEa := Lib.hid (show (wr.alloc (.cells #[] 38)).drew.heap[wr.heap.size]? = some (.cells #[] 38 (0, 0)) from heap_alloc_new wr _)
          have HEb := Lib.hid (two_new wr (.cells #[] 38) (.cells #[.slice A' r.length c'] 38))
          have HEc := Lib.hid (two_new wr (.cells #[.slice A' r.length c'] 38) (.cells #[] 38))
          have HIa := Lib.hid (show RowsIn (wr.alloc (.cells #[] 38)).drew w.heap.size A0 p from (HI0.out.kept hsz (ba wr _)).heap rfl)
          have HIb := Lib.hid (show RowsIn ((wr.alloc (.cells #[] 38)).alloc (.cells #[.slice A' r.length c'] 38)).drew w.heap.size A0 p from (HI0.out.kept hsz (bt (ba wr _) (ba _ _))).heap rfl)
          have HIc := Lib.hid (show RowsIn ((wr.alloc (.cells #[.slice A' r.length c'] 38)).alloc (.cells #[] 38)).drew w.heap.size A0 p from (HI0.out.kept hsz (bt (ba wr _) (ba _ _))).heap rfl)
          have HGa := Lib.hid (show Grows w.heap.size wr (wr.alloc (.cells #[] 38)).drew from (Grows.below hsz (ba wr _)).drew)
          have HGb := Lib.hid (show Grows w.heap.size wr ((wr.alloc (.cells #[] 38)).alloc (.cells #[.slice A' r.length c'] 38)).drew from (Grows.below hsz (bt (ba wr _) (ba _ _))).drew)
          have HGc := Lib.hid (show Grows w.heap.size wr ((wr.alloc (.cells #[.slice A' r.length c'] 38)).alloc (.cells #[] 38)).drew from (Grows.below hsz (bt (ba wr _) (ba _ _))).drew)
          have HBa := Lib.hid (show Below wr.heap.size wr (wr.alloc (.cells #[] 38)).drew from (ba wr _).drew)
          have HBb := Lib.hid (show Below wr.heap.size wr ((wr.alloc (.cells #[] 38)).alloc (.cells #[.slice A' r.length c'] 38)).drew from (bt (ba wr _) (ba _ _)).drew)
          have HBc := Lib.hid (show Below wr.heap.size wr ((wr.alloc (.cells #[.slice A' r.length c'] 38)).alloc (.cells #[] 38)).drew from (bt (ba wr _) (ba _ _)).drew)
          have HFa := Lib.hid (show ∀ x, (x = wr.heap.size ∨ x = (wr.alloc (.cells #[] 38)).drew.heap.size) → wr.heap.size ≤ x from fun x hx => by simp at hx; omega)
          have HFb := Lib.hid (show ∀ x, (x = wr.heap.size ∨ x = ((wr.alloc (.cells #[] 38)).alloc (.cells #[.slice A' r.length c'] 38)).drew.heap.size) → wr.heap.size ≤ x from fun x hx => by simp at hx; omega)
          have HFc := Lib.hid (show ∀ x, (x = wr.heap.size + 1 ∨ x = ((wr.alloc (.cells #[.slice A' r.length c'] 38)).alloc (.cells #[] 38)).drew.heap.size) → wr.heap.size ≤ x from fun x hx => by simp at hx; omega)
          go_region_held3 (fun w' => w'.cell? ⟨g, G, none⟩ = some (.slice A0 N d0) ∧ w'.cell? ⟨b, off + j, none⟩ = some (.slice A' r.length c'))
            (first | exact ⟨hj9, hk9⟩ | exact ⟨hj1, hk1⟩ | go_keep)
            (first
              | (refine step_appF (by rfl) (.tmp 18) (.tmp 22) (by rfl) wr.heap.size A0 d0 N p _ w.heap.size (by rfl) (by rfl) (by exact HEa.out) (by exact hsz) HN0.out hN0 (by exact HIa.out) (by simp; omega) (by omega) ?_; intro g1 cap1 w5 hl1 hG1 hgr1 hat1; have hGw := HGa.out.trans hG1; have hbx := HBa.out.grown hgr1 (by simp) (fun k hk => by cases hk; exact Nat.le_refl _); have hg1 := HFa.out g1 hat1; have hj1 := (hbx.cell (p := ⟨g, G, none⟩) hgw).trans g00.out; have hk1 := (hbx.cell (p := ⟨b, off + j, none⟩) hbw2).trans c00.out)
              | (refine step_appF (by rfl) (.tmp 18) (.tmp 22) (by rfl) wr.heap.size A0 d0 N p _ w.heap.size (by rfl) (by rfl) (by exact HEb.out.1) (by exact hsz) HN0.out hN0 (by exact HIb.out) (by simp; omega) (by omega) ?_; intro g1 cap1 w5 hl1 hG1 hgr1 hat1; have hGw := HGb.out.trans hG1; have hbx := HBb.out.grown hgr1 (by simp; omega) (fun k hk => by cases hk; exact Nat.le_refl _); have hg1 := HFb.out g1 hat1; have hj1 := (hbx.cell (p := ⟨g, G, none⟩) hgw).trans g00.out; have hk1 := (hbx.cell (p := ⟨b, off + j, none⟩) hbw2).trans c00.out; have hrb := (hgr1.block (wr.heap.size + 1) (by simp) (by simp)).trans HEb.out.2)
              | (refine step_appF (by rfl) (.tmp 18) (.tmp 22) (by rfl) (wr.heap.size + 1) A0 d0 N p _ w.heap.size (by rfl) (by rfl) (by exact HEc.out.2) (by omega) HN0.out hN0 (by exact HIc.out) (by simp; omega) (by omega) ?_; intro g1 cap1 w5 hl1 hG1 hgr1 hat1; have hGw := HGc.out.trans hG1; have hbx := HBc.out.grown hgr1 (by simp; omega) (fun k hk => by cases hk; exact Nat.le_succ _); have hg1 := HFc.out g1 hat1; have hj1 := (hbx.cell (p := ⟨g, G, none⟩) hgw).trans g00.out; have hk1 := (hbx.cell (p := ⟨b, off + j, none⟩) hbw2).trans c00.out; have hrb := (hgr1.block wr.heap.size (by simp; omega) (by simp)).trans HEc.out.1)
              | (refine step_pushL (by rfl) (.tmp 23) (.tmp 28) (by rfl) (.slice (some ⟨g1, 0, none⟩) N cap1) p A' c' r _ w.heap.size w5.heap.size (by rfl) (by rfl) (by exact hl1.kept (by have := hbx.size; omega) (ba w5 _)) (by exact (HEl.out.kept hGw).alloc (by have := hbx.size; omega) _) HA'.out (by exact heap_alloc_new w5 _) (by have := hbx.size; simp; omega) (by rw [HN0.out]; omega) ?_; intro g9 cap9 w9 hl9 hgr9 hat9 hG9; have hbf := (bt' hbx hbx.size (ba w5 _)).grown hgr9 (by have := hbx.size; simp; omega) (fun k hk => by cases hk; exact hg1); have hj9 := (hbf.cell (p := ⟨g, G, none⟩) hgw).trans g00.out; have hk9 := (hbf.cell (p := ⟨b, off + j, none⟩) hbw2).trans c00.out)
              | (refine step_pushL (by rfl) (.tmp 23) (.tmp 28) (by rfl) (.slice (some ⟨g1, 0, none⟩) N cap1) p A' c' r _ w.heap.size (wr.heap.size + 1) (by rfl) (by rfl) (by exact hl1) (by exact HEl.out.kept hGw) HA'.out (by exact hrb) (by have := hbx.size; omega) (by rw [HN0.out]; omega) ?_; intro g9 cap9 w9 hl9 hgr9 hat9 hG9; have hbf := hbx.grown hgr9 hbx.size (fun k hk => by cases hk; exact hg1); have hj9 := (hbf.cell (p := ⟨g, G, none⟩) hgw).trans g00.out; have hk9 := (hbf.cell (p := ⟨b, off + j, none⟩) hbw2).trans c00.out)
              | (refine step_pushL (by rfl) (.tmp 23) (.tmp 28) (by rfl) (.slice (some ⟨g1, 0, none⟩) N cap1) p A' c' r _ w.heap.size wr.heap.size (by rfl) (by rfl) (by exact hl1) (by exact HEl.out.kept hGw) HA'.out (by exact hrb) (by have := hbx.size; omega) (by rw [HN0.out]; omega) ?_; intro g9 cap9 w9 hl9 hgr9 hat9 hG9; have hbf := hbx.grown hgr9 hbx.size (fun k hk => by cases hk; exact hg1); have hj9 := (hbf.cell (p := ⟨g, G, none⟩) hgw).trans g00.out; have hk9 := (hbf.cell (p := ⟨b, off + j, none⟩) hbw2).trans c00.out))
          all_goals
            go_wp2_with fail
            go_meet
            exact ⟨some ⟨g9, 0, none⟩, cap9, N + 1, by rw [HN0.out], by omega, Lib.hid (by simp [HN0.out]), Lib.hid (by rw [HN0.out] at hl9; exact hl9), Lib.hid hbf⟩
        case rest =>
          obtain ⟨A1, c1, N1, rfl, hN1, HN1, HL1, HB1⟩ := hcut
          have HB := Lib.hid (bt HB.out HB1.out)
          have HG := Lib.hid (HG.out.kept hsz HB1.out)
          have HEl := Lib.hid (HEl.out.kept (Grows.below hsz HB1.out))
          have hgw : g < wr.heap.size := by obtain ⟨cs, fr, hcs⟩ := HTy.out; exact lt_of_block hcs
          have g0 := cell_kept HB1.out g0
          have hfz := (HB1.out.frozen (p := ⟨g, G, none⟩) hgw).trans hfz
          have c0 := cell_kept HB1.out c0
          have hsz1 := HB.out.size
          have hgw1 : g < wc.heap.size := by have := HB1.out.size; omega
          have HOk2 := Lib.hid (show allOk (p ++ [r]) from fun x hx => by
            rcases List.mem_append.1 hx with hx | hx
            · exact HOkp.out x hx
            · simp at hx; subst hx; exact hokr)
          have HR1 := Lib.hid (own_rowsF HL1.out)
          clear HB1 HLo HTy HOkp HFp
          go_wp2_with fail
          refine (used_any A1 c1 N1 (p ++ [r]) _ HR1.out HN1.out HOk2.out (by omega)).mono ?_
          rintro e w5 ⟨rfl, hb⟩
          have HB := Lib.hid (bt HB.out hb)
          have HG := Lib.hid (HG.out.kept hsz1 hb)
          have HEl := Lib.hid (HEl.out.kept (Grows.below hsz1 hb))
          have HL1 := Lib.hid (HL1.out.kept hsz1 hb)
          have g0 := cell_kept hb g0
          have hfz := (hb.frozen (p := ⟨g, G, none⟩) hgw1).trans hfz
          have c0 := cell_kept hb c0
          have HSz := Lib.hid HB.out.size
          have HU1 := Lib.hid (fun h : fitsP (p ++ [r]) = true => fits_used h)
          have HU2 := Lib.hid (fun h : fitsP (p ++ [r]) = false => fits_no h (by rw [HN1.out]; omega))
          rw [HN1.out] at HU1 HU2
          generalize 1 + lenP (p ++ [r]) + 2 * N1 = U at HU1 HU2
          clear hb HR1 hgw1 hsz1
          by_cases hfn : fitsP (p ++ [r]) = true
          · have hU := HU1.out hfn
            have HFn := Lib.hid (addG_in (gs := gs0) hfn)
            clear hfn HU1 HU2
            go_wp2_with fail
            have hst := HG.out.store (k := G) (by simp [HGl.out]) HL1.out
            rw [show (gs0 ++ [p]).set G (p ++ [r]) = gs0 ++ [p ++ [r]] by rw [HGl.out]; simp] at hst
            exact ⟨⟨j + 1, gs0 ++ [p ++ [r]], by omega, by go_num, by have := HGl.out; simp; omega, Lib.hid hst.1, Lib.hid (by rw [HN.out, ← HF.out]; exact HFn.out.symm), Lib.hid (HB.out.trans hst.2.1)⟩, by simp [intOf]; omega⟩
          · have hfn' : fitsP (p ++ [r]) = false := by simpa using hfn
            have hU := HU2.out hfn'
            have HFn := Lib.hid (addG_new (gs := gs0) hfn')
            clear hfn hfn' HU1 HU2
            go_wp2_with (at_builtin; refine wpList_pushG rfl (.tmp 37) (.tmp 43) rfl _ (gs0 ++ [p]) (.slice (some ⟨w5.heap.size, 0, none⟩) 1 1) [r] _ w.heap.size (w5.heap.size + 1) rfl rfl (HG.out.kept HSz.out (bt (ba w5 _) (ba _ _))) ?c1 ?c2 ?c3 ?c4 ?_)
            case c1 => exact own_one (two_new w5 _ _).1 HSz.out ((HEl.out.alloc HSz.out _).alloc (by have := HSz.out; simp; omega) _) HA'.out
            case c2 => exact (two_new w5 _ _).2
            case c3 => have := HSz.out; simp; omega
            case c4 => have := HGl.out; simp; omega
            intro v1 w1 hg1 hG1
            have HG1 := Lib.hid hg1
            have HB1 := Lib.hid ((HB.out.trans ((bt (ba w5 _) (ba _ _)).mono HSz.out)).trans hG1.1)
            clear hg1 hG1
            go_wp2_with fail
            exact ⟨⟨j + 1, gs0 ++ [p, [r]], by omega, by go_num, by have := HGl.out; simp; omega, Lib.hid (by simpa using HG1.out), Lib.hid (by rw [HN.out, ← HF.out, HFn.out]; simp), HB1⟩, by simp [intOf]; omega⟩
    · have HT := Lib.hid (show rs.take j = rs from List.take_of_length_le (by rw [HL.out]; omega))
      have hF := HF.out
      rw [HT.out] at hF
      have HFs := Lib.hid hF
      clear hF
      go_wp2_with fail
      go_ret
      exact ⟨_, rfl, by rw [← HFs.out]; exact HG.out, HB.out⟩
end Go.Proofs.YtmjckdgomlppeaaGreatDoor
end
section
namespace Go.Proofs.YtmjckdgomlppeaaGreatDoor
open Go.RowKit Go.Shelf
attribute [local go_sem] Oper.semAt_some

theorem PagesAt.kept13 {w w' : World} {B : Option Addr} {ps : List (List Int)} (h : PagesAt w B ps) (hb : Below w.heap.size w w') : PagesAt w' B ps := by
  rcases h with h | ⟨b, off, hB, hlt, hc⟩
  · exact .inl h
  · refine .inr ⟨b, off, hB, Nat.lt_of_lt_of_le hlt hb.size, fun i r hr => ?_⟩
    obtain ⟨A, c, hcell, hrow, hA⟩ := hc i r hr
    exact ⟨A, c, (hb.cell (p := ⟨b, _, none⟩) hlt).trans hcell, hrow.kept hb, hA⟩
theorem fillK_len (rs : List (List Va)) : (fillP rs).length ≤ rs.length := by
  have : ∀ (rs : List (List Va)) (gs : List (List (List Va))), (rs.foldl addG gs).length ≤ gs.length + rs.length := by
    intro rs
    induction rs with
    | nil => intro gs; simp
    | cons r rs ih =>
      intro gs
      have h1 := ih (addG gs r)
      have h2 := addG_len gs r
      simp only [List.foldl_cons, List.length_cons]
      omega
  simpa [fillP] using this rs []
theorem flat_take {α : Type} (gs : List (List α)) (j : Nat) (h : j < gs.length) : (gs.take (j + 1)).flatten = (gs.take j).flatten ++ gs[j] := by
  rw [List.take_succ_eq_append_getElem h, List.flatten_append, List.flatten_singleton]
theorem flat_take_le {α : Type} : ∀ (gs : List (List α)) (j : Nat), (gs.take j).flatten.length ≤ gs.flatten.length
  | [], j => by simp
  | g :: gs, 0 => by simp
  | g :: gs, j + 1 => by
    have := flat_take_le gs j
    simp only [List.take_succ_cons, List.flatten_cons, List.length_append]
    omega
set_option maxRecDepth 100000 in
set_option maxHeartbeats 8000000 in
theorem pages_walk (p0 : Nat) (t : Ta) (A R : Option Addr) (c d : Nat) (wz : World) (h : TaOk wz t A c R d) (hF : FineT t) (hT : Tabs wz) (hp : wz.heap.size = p0) :
    Calls Tryz.prog 5 #[TV t.nm A t.cols.length c R t.rows.length d] wz fun e w' => e = .returned (.bool true) ∧ Below p0 wz w' := by
  have HT := Lib.hid (show ∀ W, Below p0 wz W → Tabs W from fun W hb => hT.kept (hp ▸ hb))
  have HA := Lib.hid (show ∀ W, Below p0 wz W → TaOk W t A c R d from fun W hb => h.kept (hp ▸ hb))
  have HF := Lib.hid hF
  obtain ⟨q, hq⟩ : ∃ q, largeC [t] = q := ⟨_, rfl⟩
  have HQ := Lib.hid hq
  have h0 := ba wz (tbox t.nm A t.cols.length c R t.rows.length d)
  rw [hp] at h0
  have hx0 := (MapKept.heap_alloc wz (tbox t.nm A t.cols.length c R t.rows.length d)).1
  rw [hp] at hx0
  have HX0 := Lib.hid hx0
  have HB := Lib.hid h0
  have HP := Lib.hid hp
  clear hT h hq h0 hx0 hp hF
  go_enter Tryz.func5, Tryz.ntmps5
  go_upto_region 1 with fail
  generalize wz.alloc (tbox t.nm A t.cols.length c R t.rows.length d) = w1 at HX0 HB ⊢
  rw [HP.out]
  have hc1 := ct_one w1 t (HA.out _ HB.out)
  have h1 := ba w1 (tbox t.nm A t.cols.length c R t.rows.length d)
  have HX1 := Lib.hid ((h1.block p0 (Array.getElem?_eq_some_iff.1 HX0.out).1).trans HX0.out)
  have HB := Lib.hid (btp HB.out HP.out h1)
  obtain ⟨x0, x1, x2⟩ := cell3 HX0.out
  go_wp2_with fail
  refine (large13_any _ 1 [t] _ hc1 (show 1 ≤ 9223372036854775807 by decide) HQ.out).mono ?_
  clear x0 x1 x2 hc1 h1
  generalize w1.alloc (tbox t.nm A t.cols.length c R t.rows.length d) = w2 at HX1 HB ⊢
  rintro e w3 ⟨rfl, hb⟩
  have HX := Lib.hid ((hb.block p0 (Array.getElem?_eq_some_iff.1 HX1.out).1).trans HX1.out)
  have HB := Lib.hid (btp HB.out HP.out hb)
  clear hb
  cases q with
  | true =>
    go_wp2_with fail
    refine (lives13_yes w3 (HT.out _ HB.out)).mono ?_
    rintro e w4 ⟨rfl, hb⟩
    have HB := Lib.hid (btp HB.out HP.out hb)
    clear hb
    go_wp2_with fail
    go_ret
    exact ⟨rfl, HB.out⟩
  | false =>
    have HS := Lib.hid ((smls_of HQ.out).2 t (List.mem_singleton.2 rfl))
    obtain ⟨x0, x1, x2⟩ := cell3 HX.out
    go_wp2_with fail
    refine (cpages_any t A R c d w3 (HA.out _ HB.out) HF.out (HT.out _ HB.out) (fun hb => HS.out.pages hb)).mono ?_
    rintro e w4 ⟨hb, he⟩
    have HX := Lib.hid ((hb.block p0 (Array.getElem?_eq_some_iff.1 HX.out).1).trans HX.out)
    have HB := Lib.hid (btp HB.out HP.out hb)
    clear hb x0 x1 x2
    obtain ⟨b, hb0⟩ : ∃ b, tabB t = b := ⟨_, rfl⟩
    have HTb := Lib.hid hb0
    rw [hb0] at he
    clear hb0
    cases b with
    | false =>
      rw [if_neg (by simp)] at he
      subst he
      go_wp2_with fail
      refine (lives13_yes w4 (HT.out _ HB.out)).mono ?_
      rintro e w5 ⟨rfl, hb⟩
      have HX := Lib.hid ((hb.block p0 (Array.getElem?_eq_some_iff.1 HX.out).1).trans HX.out)
      have HB := Lib.hid (btp HB.out HP.out hb)
      clear hb
      obtain ⟨x0, x1, x2⟩ := cell3 HX.out
      go_wp2_with fail
      refine (rtable_any t A R c d w5 (HA.out _ HB.out) HF.out HTb.out).mono ?_
      rintro e w6 ⟨rfl, hb⟩
      have HB := Lib.hid (btp HB.out HP.out hb)
      clear hb x0 x1 x2
      go_wp2_with fail
      go_ret
      exact ⟨rfl, HB.out⟩
    | true =>
      rw [if_pos rfl] at he
      obtain ⟨Ap, cp, rfl, hpg, hAp⟩ := he
      obtain ⟨gs, hgs⟩ : ∃ gs, fillP t.rows = gs := ⟨_, rfl⟩
      obtain ⟨K, hK⟩ : ∃ K, gs.length = K := ⟨_, rfl⟩
      rw [hgs] at hpg ⊢
      rw [hK]
      have HPg := Lib.hid hpg
      have HGs := Lib.hid hgs
      have HKl := Lib.hid hK
      clear hpg hgs hK
      go_wp2_with fail
      refine (lives13_yes w4 (HT.out _ HB.out)).mono ?_
      rintro e w5 ⟨rfl, hb⟩
      have HX := Lib.hid ((hb.block p0 (Array.getElem?_eq_some_iff.1 HX.out).1).trans HX.out)
      have HB := Lib.hid (btp HB.out HP.out hb)
      have HPg := Lib.hid (HPg.out.kept13 hb)
      clear hb
      obtain ⟨x0, x1, x2⟩ := cell3 HX.out
      go_wp2_with fail
      refine (rtable_any t A R c d w5 (HA.out _ HB.out) HF.out HTb.out).mono ?_
      rintro e w6 ⟨rfl, hb⟩
      have HX := Lib.hid ((hb.block p0 (Array.getElem?_eq_some_iff.1 HX.out).1).trans HX.out)
      have HB := Lib.hid (btp HB.out HP.out hb)
      have HPg := Lib.hid (HPg.out.kept13 hb)
      clear hb x0 x1 x2
      go_wp2_with fail
      obtain ⟨B1, hB1⟩ : ∃ B1, w6.heap.size = B1 := ⟨_, rfl⟩
      have hpB : p0 < B1 := by rw [← hB1]; exact (Array.getElem?_eq_some_iff.1 HX.out).1
      have HG := Lib.hid (fillP_good (badP_zero (tabB_bad HTb.out)))
      rw [HGs.out] at HG
      have HB1 := Lib.hid hB1
      have hKn : K ≤ 5000 := by have h1 := fillK_len t.rows; rw [HGs.out, HKl.out] at h1; have := HS.out.n; omega
      have HPg1 := Lib.hid (show ∀ W, Below B1 w6 W → PagesAt W Ap (gs.map makeP) from fun W hb => HPg.out.kept13 (hB1 ▸ hb))
      have HX1 := Lib.hid (show ∀ W, Below B1 w6 W → W.heap[p0]? = some (tbox t.nm A t.cols.length c R t.rows.length d) from fun W hb => (hb.block p0 hpB).trans HX.out)
      have HBB := Lib.hid (show ∀ W, Below B1 w6 W → Below p0 wz W from fun W hb => HB.out.trans (hb.mono (Nat.le_of_lt hpB)))
      clear hB1 hpB
      go_wp2_with fail
      go_loopw [5, 6] (fun all i wr => ∃ j : Nat, j ≤ K ∧ i = .int .i64 j ∧ Hid (LO B1 (gs.take j).flatten all wr) ∧ Hid (Below B1 w6 wr)) (fun all i _ => K - (intOf i).toNat)
      case atStart => exact ⟨0, Nat.zero_le _, rfl, Lib.hid ⟨ListOwn.nil _ _, Nat.le_of_eq HB1.out.symm⟩, Lib.hid (Below.refl _ _)⟩
      case round =>
        obtain ⟨j, hj, rfl, HL, HW⟩ := hrel
        by_cases hlt : j < K
        · have hlt' : j < gs.length := by rw [HKl.out]; exact hlt
          obtain ⟨b, off, rfl, A2, c2, y0, hby, hlc⟩ := (HPg1.out _ HW.out).at (Below.refl _ _) (i := j) (by simpa using hlt')
          have HFl := Lib.hid (flat_take gs j hlt')
          have HFn := Lib.hid (show (gs.take j).flatten.length + gs[j].length ≤ 65536 from by
            have h1 := flat_take_le gs (j + 1)
            rw [flat_take gs j hlt', HG.out.2, List.length_append] at h1
            have := HS.out.n
            omega)
          obtain ⟨hfit, hokp, hpn⟩ := HG.out.1 gs[j] (List.getElem_mem hlt')
          rw [show (gs.map makeP)[j]'(by simpa using hlt') = makeP gs[j] by simp] at y0 hby hlc
          generalize gs[j] = p at y0 hby hlc HFl HFn hfit hokp hpn
          obtain ⟨N, hNl⟩ : ∃ N, (makeP p).length = N := ⟨_, rfl⟩
          have hre : refP (makeP p) = some p := by rw [refP_eq (makeP_byte hokp hfit), make_openP hokp hfit]; rfl
          have HRw := Lib.hid (refRows_any A2 N c2 (makeP p) wr hby hNl (by omega))
          rw [hre] at HRw
          rw [hNl] at y0
          have hpl : 0 < p.length := List.length_pos_iff.2 hpn
          clear hby hlc hfit hokp hre hNl hpn
          go_wp2_with fail
          refine HRw.out.mono ?_
          rintro e w7 ⟨hb, A3, c3, rfl, hr3, hn3, hlo, _⟩
          obtain ⟨M, hM⟩ : ∃ M, p.length = M := ⟨_, rfl⟩
          have HM := Lib.hid hM
          rw [hM] at hlo hpl ⊢
          have HLo := Lib.hid hlo
          have HL := Lib.hid (LO.keeps _ _ _ _ _ hb HL.out)
          have HW := Lib.hid (HW.out.trans (hb.mono (by have := HW.out.size; have := HB1.out; omega)))
          have hM0 : ((M : Int) == 0) = false := by rw [beq_eq_false_iff_ne]; omega
          clear hb hr3 hM hlo y0
          have HRI := Lib.hid (show RowsIn w7 B1 A3 p from by
            obtain ⟨A4, c4, e4, h4, _⟩ := HLo.out.inB
            cases e4
            exact h4.up)
          have HN3 := Lib.hid hn3
          have hFn := HFn.out
          rw [HM.out] at hFn
          clear hn3
          go_wp2_with (at_builtin; refine wpList_appL rfl (.tmp 51) (.tmp 52) rfl u5 (gs.take j).flatten A3 c3 M p _ B1 rfl rfl HM.out HL.out.1 HRI.out HN3.out HL.out.2 (by rw [HM.out]; exact hFn) ?_)
          intro v' w9 hl9 hG9
          have HL9 := Lib.hid (show LO B1 (gs.take (j + 1)).flatten v' w9 by rw [HFl.out]; exact ⟨hl9, Nat.le_trans HL.out.2 hG9.1.size⟩)
          have HW9 := Lib.hid (HW.out.trans hG9.1)
          clear hl9 hG9
          go_wp2_with fail
          go_roundw
          case rel => exact ⟨j + 1, by omega, by go_num, HL9, HW9⟩
          case measure => simp [intOf]; omega
        · have hjK : j = K := by omega
          have hLO := HL.out
          rw [hjK, ← HKl.out, List.take_length, HG.out.2] at hLO
          obtain ⟨A5, c5, rfl, hr5, _, _, _⟩ := hLO.ok
          have HR5 := Lib.hid hr5
          have HB := Lib.hid (HBB.out _ HW.out)
          obtain ⟨x0, x1, x2⟩ := cell3 (HX1.out _ HW.out)
          clear hLO hr5 hjK
          go_wp2_with fail
          have hro := (HA.out _ HB.out).ro
          refine (rsameList_any A5 R c5 d t.rows t.rows wr HR5.out hro (by have := HS.out.n; omega) (fun x hx => by have := HS.out.l x hx; omega) (fun x hx => by have := HS.out.l x hx; omega) (eqRs_iff.2 rfl)).mono ?_
          rintro e w8 ⟨rfl, hb⟩
          have HX8 := Lib.hid ((hb.block p0 (Array.getElem?_eq_some_iff.1 (HX1.out _ HW.out)).1).trans (HX1.out _ HW.out))
          have HB := Lib.hid (btp HB.out HP.out hb)
          clear hb hro x0 x1 x2
          obtain ⟨x0, x1, x2⟩ := cell3 HX8.out
          go_wp2_with fail
          refine (refFill_any R d t.rows.length t.rows w8 (HA.out _ HB.out).ro rfl (tabB_bad HTb.out) (HS.out.pages HTb.out)).mono ?_
          rintro e w9 ⟨v, rfl, hg, hb⟩
          obtain ⟨Av, cv, rfl, _, _⟩ := hg.form
          rw [HGs.out, HKl.out]
          have HB := Lib.hid (btp HB.out HP.out hb)
          clear hb hg x0 x1 x2
          go_wp2_with fail
          go_ret
          exact ⟨rfl, HB.out⟩
end Go.Proofs.YtmjckdgomlppeaaGreatDoor
end
