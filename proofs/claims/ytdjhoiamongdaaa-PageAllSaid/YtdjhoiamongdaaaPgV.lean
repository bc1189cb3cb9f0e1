/-
  The contract of the document's own Rows of a page.
-/
import Derived.Test.YtdjhoiamongdaaaPgK
import Derived.Test.YtdjhoiamongdaaaPgH
import Derived.Test.YtdjhoiamongdaaaPgO2
import Derived.Test.YtdjhoiamongdaaaRRGet
import Derived.Test.YtdjhoiamongdaaaRGts0
namespace Go.Proofs.Ytdjhoiamongdaaa
open Go.RowKit Go.Shelf

def RefRowsEnd (w : World) (o : Option (List (List Va))) (e : Ending) (w' : World) : Prop :=
  Below w.heap.size w w' ∧ match o with
  | some rs => ∃ A c, e = .returned (.tuple #[.slice A rs.length c, .bool true]) ∧ RowsAt w' A rs ∧ (A = none → c = 0) ∧ ListOwn w' 0 (.slice A rs.length c) rs ∧ allOk rs
  | none => e = .returned (.tuple #[.slice none 0 0, .bool false])
def afterM (rs0 : List (List Va)) : Option (List (List Va)) → Option (List (List Va))
  | none => none
  | some rs => some (rs0 ++ rs)
theorem afterM_none {p : List Int} {k e : Nat} (rs0 : List (List Va)) (he : e ≤ 256) (h : getRow (p.drop e) = none) : afterM rs0 (refL p (k + 1) e) = none := by
  rw [refL, if_neg (by omega), h]; rfl
theorem afterM_some {p : List Int} {k e : Nat} (rs0 : List (List Va)) {r : List Va} {n : Nat} (he : e ≤ 256) (h : getRow (p.drop e) = some (r, n)) : afterM rs0 (refL p (k + 1) e) = afterM (rs0 ++ [r]) (refL p k (e + n)) := by
  rw [refL, if_neg (by omega), h]; simp only
  cases refL p k (e + n) with
  | none => rfl
  | some q => simp [afterM]
theorem nums_inj {a b : List Int} (ha : ∀ x ∈ a, 0 ≤ x ∧ x < 256) (hb : ∀ x ∈ b, 0 ≤ x ∧ x < 256) (h : strOfNums a = strOfNums b) : a = b := by
  rw [← strB_strOfNums a ha, h, strB_strOfNums b hb]

theorem toList_loop (b : ByteArray) : ∀ (k i : Nat) (r : List UInt8), b.size - i = k → ByteArray.toList.loop b i r = r.reverse ++ b.data.toList.drop i := by
  intro k
  induction k with
  | zero =>
    intro i r h
    rw [ByteArray.toList.loop, if_neg (by omega), List.drop_of_length_le (by simp; exact (by omega : b.size ≤ i))]
    simp
  | succ k ih =>
    intro i r h
    have hlt : i < b.size := by omega
    have e := List.drop_eq_getElem_cons (l := b.data.toList) (i := i) (by simpa using hlt)
    rw [ByteArray.toList.loop, if_pos hlt, ih (i + 1) _ (by omega), e]
    simp [ByteArray.get!, getElem!_pos b.data i hlt]
theorem toList_data (b : ByteArray) : b.toList = b.data.toList := by
  unfold ByteArray.toList
  rw [toList_loop b _ 0 [] rfl]
  simp
theorem str_inj {a b : ByteArray} (h : a.toList = b.toList) : a = b := by
  rw [toList_data, toList_data] at h
  cases a; cases b
  simp at h
  rw [h]
theorem str_ne {a b : ByteArray} (h : a ≠ b) : (a.toList == b.toList) = false := by
  rw [beq_eq_false_iff_ne]; exact fun hh => h (str_inj hh)

set_option maxHeartbeats 400000 in
theorem refRows_len (A : Option Addr) (L c : Nat) (w : World) (hL : L ≠ 256) :
    Calls Try.prog 26 #[.slice A L c] w (RefRowsEnd w none) := by
  have h1 : ((L : Int) != 256) = true := by rw [bne_iff_ne]; omega
  go_enter Try.func26, Try.ntmps26
  go_wp2_with fail
  go_ret2
  exact ⟨Below.refl _ _, rfl⟩

set_option maxRecDepth 100000 in
set_option maxHeartbeats 4000000 in
theorem refRows_do (A : Option Addr) (c K : Nat) (p : List Int) (w : World) (h : BytesAt w A p) (hl : p.length = 256) (hc : 256 ≤ c) (hp0 : p.getD 0 0 = (K : Int)) (hK : K ≤ 255) :
    Calls Try.prog 26 #[.slice A 256 c] w (RefRowsEnd w (refP p)) := by
  obtain ⟨b, off, rfl, hb, c0, x0, x1⟩ := h.at (getD_at p 0 (by omega))
  rw [Nat.add_zero, hp0] at c0
  have hO : refP p = match refL p K 1 with
      | none => none
      | some rs => if fitsP rs = true ∧ makeP rs = p then some rs else none := by
    unfold refP
    rw [if_pos hl, hp0, Int.toNat_natCast]
    cases refL p K 1 <;> rfl
  generalize refP p = res at hO ⊢
  have HO := Lib.hid hO
  have HH := Lib.hid h
  have HL := Lib.hid hl
  have hcW := Lib.hid c0
  clear h hl hO x0 x1 hp0 c0
  go_enter Try.func26, Try.ntmps26
  go_wp2_with fail
  go_loopw [4, 5, 6] (fun v s i wr => ∃ (j e : Nat) (rs0 : List (List Va)), j ≤ K ∧ i = .int .i64 j ∧ s = .int .i64 e ∧ e ≤ 256 ∧ 1 ≤ e ∧ rs0.length = j ∧ Hid (ListOwn wr 0 v rs0) ∧ Hid (∀ k, v.ownBlock = some k → w.heap.size ≤ k) ∧ Hid (Below w.heap.size w wr) ∧ Hid (allOk rs0) ∧ Hid (refL p K 1 = afterM rs0 (refL p (K - j) e))) (fun _ _ i _ => K - (intOf i).toNat)
  case atStart => exact ⟨0, 1, [], Nat.zero_le _, rfl, rfl, by omega, Nat.le_refl _, rfl, Lib.hid (ListOwn.nil _ _), Lib.hid (fun k hk => by cases hk), Lib.hid (Below.refl _ _), Lib.hid (fun r hr => by cases hr), Lib.hid (by simp [afterM]; cases refL p K 1 <;> rfl)⟩
  case round =>
    obtain ⟨j, e, rs0, hj, rfl, rfl, he, he1, hrl, HOw, HOB, HBw, HKr, HEq⟩ := hrel
    have HRl := Lib.hid hrl
    clear hrl
    have c0 := cell_kept HBw.out hcW.out
    by_cases hlt : j < K
    · have hsl := run_from (some ⟨b, off, none⟩) 256 c e he
      have hbd := (HH.out.kept HBw.out).drop c e (by rw [HL.out]; omega)
      have hbl : (p.drop e).length = 256 - e := by rw [List.length_drop, HL.out]
      have hgt := refGet_anyT _ (256 - e) (c - e) _ wr hbd hbl (by omega) (by omega)
      have hrt := HEq.out
      rw [show K - j = K - (j + 1) + 1 by omega] at hrt
      generalize adv (some ⟨b, off, none⟩) c e = A' at hsl hbd hgt
      have hszw := HBw.out.size
      cases hv : getRow (p.drop e) with
      | none =>
        have HE := Lib.hid (show res = none by rw [HO.out, hrt.trans (afterM_none rs0 he hv)])
        rw [hv] at hgt
        have HG := Lib.hid hgt
        clear hgt hv hrt hbd hbl
        go_wp2_with fail
        refine HG.out.mono ?_
        rintro e2 w2 ⟨hb2, rfl⟩
        have HB2 := Lib.hid (bt HBw.out hb2)
        clear hb2
        go_wp2_with fail
        go_ret2
        refine ⟨HB2.out, ?_⟩
        rw [HE.out]
        rfl
      | some q =>
        obtain ⟨r, n⟩ := q
        obtain ⟨hok, hput, hn, hn1⟩ := getRow_some hbd.2 hv
        rw [hbl] at hn
        rw [hv] at hgt
        have HG := Lib.hid hgt
        have HE := Lib.hid (hrt.trans (afterM_some rs0 he hv))
        have HKn := Lib.hid (show allOk (rs0 ++ [r]) from fun x hx => by
          rcases List.mem_append.1 hx with hx | hx
          · exact HKr.out x hx
          · simp at hx; subst hx; exact hok)
        clear hgt hv hrt hbd hbl hok hput
        go_wp2_with fail
        refine HG.out.mono ?_
        rintro e2 w2 ⟨hb2, A2, c2, rfl, hr2, hA2, ht2⟩
        have HEl := Lib.hid (show ElemAt w2 0 A2 r from ⟨hr2, fun _ b' off' hb' => .inr (ht2 b' off' hb')⟩)
        have HA2 := Lib.hid hA2
        have HOw := Lib.hid (HOw.out.kept (Nat.zero_le _) hb2)
        have HBw := Lib.hid (bt HBw.out hb2)
        have hsz2 := HBw.out.size
        clear hb2 hr2 hA2 ht2 c0
        go_wp2_with (at_builtin; refine wpList_pushL rfl (.tmp 35) (.tmp 37) rfl u4 rs0 A2 c2 r _ 0 w2.heap.size rfl rfl (HOw.out.kept (Nat.zero_le _) (ba _ _)) (HEl.out.alloc (Nat.zero_le _) _) HA2.out (heap_alloc_new _ _) ?c1 ?c2 ?_)
        case c1 => exact Nat.zero_le _
        case c2 => rw [HRl.out]; omega
        intro g9 cap9 w9 hlo9 hgr9 hat9 _
        have HOn := Lib.hid hlo9
        have HBn := Lib.hid ((bt HBw.out (ba w2 _)).grown hgr9 (by simp; omega) HOB.out)
        have HOBn := Lib.hid (show ∀ k, (Value.slice (some ⟨g9, 0, none⟩) (rs0.length + 1) cap9).ownBlock = some k → w.heap.size ≤ k from fun k hk => by
          cases hk
          rcases hat9 with hh | hh
          · exact HOB.out _ hh
          · rw [hh]; simp; omega)
        clear hlo9 hgr9 hat9
        go_wp2_with fail
        go_roundw
        case rel => exact ⟨j + 1, e + n, rs0 ++ [r], by omega, by go_num, by go_num, by omega, by omega, by simp [HRl.out], HOn, HOBn, HBn, HKn, HE⟩
        case measure => simp [intOf]; omega
    · obtain rfl : j = K := by omega
      have hfin := HEq.out
      rw [Nat.sub_self] at hfin
      have hfin2 : refL p j 1 = some rs0 := by rw [hfin]; simp [refL, afterM]
      have hres := HO.out
      rw [hfin2] at hres
      simp only at hres
      have HRes := Lib.hid hres
      clear hfin hfin2 hres
      obtain ⟨A9, c9, rfl, hr9, hA9, hc9⟩ := own_end HOw.out
      have HR9 := Lib.hid hr9
      have HA9 := Lib.hid hA9
      clear hr9 hA9 hc9
      rw [HRl.out]
      go_wp2_with fail
      refine (make_any A9 c9 j rs0 wr HR9.out HRl.out HKr.out (by omega)).mono ?_
      rintro e2 w2 ⟨hb2, he2⟩
      have HBw := Lib.hid (bt HBw.out hb2)
      have HR9 := Lib.hid (HR9.out.kept hb2)
      have HOw := Lib.hid (HOw.out.kept (Nat.zero_le _) hb2)
      by_cases hfit : fitsP rs0 = true
      · rw [if_pos hfit] at he2
        obtain ⟨g, cap, rfl, hbuf⟩ := he2
        have hby := makeP_byte HKr.out hfit
        have hq := hbuf.bytes hby
        have hpw := HH.out.kept HBw.out
        have HFt := Lib.hid hfit
        have HQ := Lib.hid (str_atc hq (makeP_len hfit) cap)
        have HP := Lib.hid (str_atc hpw HL.out c)
        have HIn := Lib.hid (nums_inj hby hpw.2)
        clear hb2 hfit hbuf hby hq hpw c0
        have hcv1 := HQ.out
        have hcv2 := HP.out
        clear HQ HP
        by_cases hm : makeP rs0 = p
        · have HE := Lib.hid (show res = some rs0 by rw [HRes.out, if_pos ⟨HFt.out, hm⟩])
          rw [hm] at hcv1
          generalize strOfNums p = X at hcv1 hcv2
          clear hm
          go_wp2_with fail
          go_ret2
          refine ⟨HBw.out, ?_⟩
          rw [HE.out]
          exact ⟨A9, c9, by simp [HRl.out], HR9.out, HA9.out, by rw [HRl.out]; simpa [HRl.out] using HOw.out, HKr.out⟩
        · have HE := Lib.hid (show res = none by rw [HRes.out, if_neg (fun hh => hm hh.2)])
          have hne : ((strOfNums (makeP rs0)).toList == (strOfNums p).toList) = false := str_ne (fun hh => hm (HIn.out hh))
          generalize strOfNums (makeP rs0) = X at hcv1 hne
          generalize strOfNums p = Y at hcv2 hne
          clear hm HIn
          go_wp2_with fail
          go_ret2
          refine ⟨HBw.out, ?_⟩
          rw [HE.out]
          rfl
      · rw [if_neg hfit] at he2
        subst he2
        have HE := Lib.hid (show res = none by rw [HRes.out, if_neg (fun hh => hfit hh.1)])
        clear hb2 hfit
        go_wp2_with fail
        go_ret2
        refine ⟨HBw.out, ?_⟩
        rw [HE.out]
        rfl

theorem refRows_any (A : Option Addr) (L c : Nat) (p : List Int) (w : World) (h : BytesAt w A p) (hL : p.length = L) (hc : L ≤ c) :
    Calls Try.prog 26 #[.slice A L c] w (RefRowsEnd w (refP p)) := by
  by_cases hl : L = 256
  · subst hl
    have hx := h.2 (p.getD 0 0) (by simp [List.getD, show 0 < p.length by omega])
    obtain ⟨K, hK⟩ := Int.eq_ofNat_of_zero_le hx.1
    exact refRows_do A c K p w h hL hc hK (by omega)
  · rw [show refP p = none by unfold refP; rw [if_neg (by omega)]]
    exact refRows_len A L c w hl
end Go.Proofs.Ytdjhoiamongdaaa
