/-
  Contract of page.open.
-/
import Derived.Test.YtdjhoiamongdaaaPgO
import Derived.Test.YtdjhoiamongdaaaRfS
namespace Go.Proofs.Ytdjhoiamongdaaa
open Go.RowKit Go.Shelf

def OpenEnd (w : World) (o : Option (List (List Va) × Nat)) (e : Ending) (w' : World) : Prop :=
  Below w.heap.size w w' ∧ match o with
  | some (rs, n) => ∃ A c, e = .returned (.tuple #[.slice A rs.length c, .int .i64 n, .int .i64 0]) ∧ RowsAt w' A rs ∧ (A = none → c = 0) ∧ rs.length ≤ c ∧ ListOwn w' 0 (.slice A rs.length c) rs
  | none => e = .returned (.tuple #[.slice none 0 0, .int .i64 0, .int .i64 40])

set_option maxHeartbeats 400000 in
theorem open_len (A : Option Addr) (L c : Nat) (w : World) (hL : L ≠ 256) :
    Calls Try.prog 62 #[.slice A L c] w (OpenEnd w none) := by
  have h1 : ((L : Int) != 256) = true := by rw [bne_iff_ne]; omega
  go_enter Try.func62, Try.ntmps62
  go_wp2_with fail
  go_ret3
  exact ⟨Below.refl _ _, rfl⟩
set_option maxHeartbeats 400000 in
theorem open_many (b off c K : Nat) (w : World) (c0 : w.cell? ⟨b, off, none⟩ = some (.int .u8 K)) (hK : 127 < K) (hK2 : K < 256) :
    Calls Try.prog 62 #[.slice (some ⟨b, off, none⟩) 256 c] w (OpenEnd w none) := by
  have hp : 256 - 2 * ((K : Int) - 1 + 1) < 1 := by omega
  go_enter Try.func62, Try.ntmps62
  go_wp2_with fail
  refine (placeAt_any _ _ (by omega) (by omega)).mono ?_
  rintro e w1 ⟨rfl, rfl⟩
  go_wp2_with fail
  go_ret3
  exact ⟨Below.refl _ _, rfl⟩

def afterO (rs0 : List (List Va)) : Option (List (List Va) × Nat) → Option (List (List Va) × Nat)
  | none => none
  | some (rs, e) => some (rs0 ++ rs, e)
theorem afterO_none {p : List Int} {pl j k e : Nat} (rs0 : List (List Va)) (h : getRow ((p.take pl).drop e) = none) : afterO rs0 (openL p pl j (k + 1) e) = none := by
  rw [openL, h]; rfl
theorem afterO_place {p : List Int} {pl j k e : Nat} (rs0 : List (List Va)) {r : List Va} {n : Nat} (h : getRow ((p.take pl).drop e) = some (r, n)) (hp : placeP p j ≠ e) : afterO rs0 (openL p pl j (k + 1) e) = none := by
  rw [openL, h]; simp only; rw [if_neg hp]; rfl
theorem afterO_some {p : List Int} {pl j k e : Nat} (rs0 : List (List Va)) {r : List Va} {n : Nat} (h : getRow ((p.take pl).drop e) = some (r, n)) (hp : placeP p j = e) : afterO rs0 (openL p pl j (k + 1) e) = afterO (rs0 ++ [r]) (openL p pl (j + 1) k (e + n)) := by
  rw [openL, h]; simp only; rw [if_pos hp]
  cases openL p pl (j + 1) k (e + n) with
  | none => rfl
  | some q => simp [afterO]

set_option maxRecDepth 100000 in
set_option maxHeartbeats 4000000 in
theorem open_do (A : Option Addr) (c K : Nat) (p : List Int) (w : World) (h : BytesAt w A p) (hl : p.length = 256) (hc : 256 ≤ c) (hp0 : p.getD 0 0 = (K : Int)) (hK : K ≤ 127) :
    Calls Try.prog 62 #[.slice A 256 c] w (OpenEnd w (openP p)) := by
  obtain ⟨b, off, rfl, hb, c0, x0, x1⟩ := h.at (getD_at p 0 (by omega))
  rw [Nat.add_zero, hp0] at c0
  obtain ⟨i0, hi, hz0, hz1, hz2⟩ := info_parts info_rowT
  obtain ⟨pl, hpl⟩ : ∃ pl, pl = 256 - 2 * K := ⟨_, rfl⟩
  have hpi : 256 - 2 * ((K : Int) - 1 + 1) = (pl : Int) := by omega
  have hO : openP p = match openL p pl 0 K 1 with
      | none => none
      | some (rs, e) => if ((p.take pl).drop e).any oddB then none else some (rs, e) := by
    unfold openP
    rw [if_pos hl, hp0, Int.toNat_natCast, if_neg (by omega), ← hpl]
    rfl
  generalize openP p = res at hO ⊢
  have HO := Lib.hid hO
  have HH := Lib.hid h
  have HL := Lib.hid hl
  have HP := Lib.hid hpi
  have hpl1 : 2 ≤ pl := by omega
  have hpl2 : pl ≤ 256 := by omega
  have hpl3 : ¬ (pl : Int) < 1 := by omega
  clear h hl hO hpl hpi x0 x1 hp0
  go_enter Try.func62, Try.ntmps62
  go_wp2_with fail
  refine (placeAt_is _ pl _ (by omega) (by omega) HP.out).mono ?_
  rintro e w1 ⟨rfl, rfl⟩
  go_wp2_with (at_make; refine wpList_make_own _ rfl _ _ 22 rfl 0 30 i0 _ 1 Try.underlying22 hi hz0 hz1 _ _ _ K rfl rfl ?b0 ?b1 ?b2 ?b3 ?_)
  case b0 => rfl
  case b1 => rw [hz2]; omega
  case b2 => simp [maxLen]; omega
  case b3 => exact Nat.zero_le _
  intro w1 hown hg
  have HB1 := Lib.hid ((Below.refl w.heap.size w).grown hg (Nat.le_refl _) (fun k hk => by cases hk))
  have HO1 := Lib.hid (show ListOwn w1 0 (.slice (some ⟨w.heap.size, 0, none⟩) 0 K) [] from ⟨[], hown, Elems.nil _ _⟩)
  clear hown hg c0
  go_wp2_with fail
  go_loopw [6, 8, 29] (fun s v i wr => ∃ (j e : Nat) (rs0 : List (List Va)), j ≤ K ∧ i = .int .i64 j ∧ s = .int .i64 e ∧ e ≤ pl ∧ 1 ≤ e ∧ rs0.length = j ∧ Hid (ListOwn wr 0 v rs0) ∧ Hid (∀ k, v.ownBlock = some k → w.heap.size ≤ k) ∧ Hid (Below w.heap.size w wr) ∧ Hid (openL p pl 0 K 1 = afterO rs0 (openL p pl j (K - j) e))) (fun _ _ i _ => K - (intOf i).toNat)
  case atStart => exact ⟨0, 1, [], Nat.zero_le _, rfl, rfl, by omega, Nat.le_refl _, rfl, HO1, Lib.hid (fun k hk => by cases hk; exact Nat.le_refl _), HB1, Lib.hid (by simp [afterO]; cases openL p pl 0 K 1 <;> rfl)⟩
  case round =>
    obtain ⟨j, e, rs0, hj, rfl, rfl, he, he1, hrl, HOw, HOB, HBw, HEq⟩ := hrel
    have HRl := Lib.hid hrl
    clear hrl
    by_cases hlt : j < K
    · have hsl := run_cut3 (some ⟨b, off, none⟩) 256 c e pl he (by omega)
      have hbd := (HH.out.kept HBw.out).cut pl e
      have hbl : ((p.take pl).drop e).length = pl - e := by rw [List.length_drop, List.length_take, HL.out]; omega
      have hgt := get_anyT _ (pl - e) (pl - e) _ wr hbd hbl (Nat.le_refl _) (by omega)
      have hrt := HEq.out
      rw [show K - j = K - (j + 1) + 1 by omega] at hrt
      generalize adv (some ⟨b, off, none⟩) pl e = A' at hsl hbd hgt
      have hji : (j : Int) < (K : Int) := by omega
      have hszw := HBw.out.size
      cases hv : getRow ((p.take pl).drop e) with
      | none =>
        have HE := Lib.hid (show res = none by rw [HO.out, hrt.trans (afterO_none rs0 hv)])
        rw [hv] at hgt
        have HG := Lib.hid hgt
        clear hgt hv hrt hbd hbl
        go_wp2_with fail
        refine HG.out.mono ?_
        rintro e2 w2 ⟨hb2, rfl⟩
        have HB2 := Lib.hid (bt HBw.out hb2)
        clear hb2
        go_wp2_with fail
        go_ret3
        refine ⟨HB2.out, ?_⟩
        rw [HE.out]
        rfl
      | some q =>
        obtain ⟨r, n⟩ := q
        obtain ⟨hok, hput, hn, hn1⟩ := getRow_some hbd.2 hv
        rw [hbl] at hn
        rw [hv] at hgt
        have HG := Lib.hid hgt
        have HPl := Lib.hid (fun (W : World) (hW : BytesAt W (some ⟨b, off, none⟩) p) => place_any (some ⟨b, off, none⟩) c j p W hW HL.out (by omega))
        by_cases hpc : placeP p j = e
        · have HE := Lib.hid (hrt.trans (afterO_some rs0 hv hpc))
          rw [hpc] at HPl
          clear hgt hv hrt hbd hbl hok hput hpc
          go_wp2_with fail
          refine HG.out.mono ?_
          rintro e2 w2 ⟨hb2, A2, c2, rfl, hr2, hA2, ht2⟩
          have HEl := Lib.hid (show ElemAt w2 0 A2 r from ⟨hr2, fun _ b' off' hb' => .inr (ht2 b' off' hb')⟩)
          have HA2 := Lib.hid hA2
          have HOw := Lib.hid (HOw.out.kept (Nat.zero_le _) hb2)
          have HBw := Lib.hid (bt HBw.out hb2)
          clear hb2 hr2 hA2 ht2
          go_wp2_with fail
          refine (HPl.out _ (HH.out.kept HBw.out)).mono ?_
          rintro e3 w3 ⟨rfl, hb3⟩
          have hsz2 := HBw.out.size
          have HEl := Lib.hid (HEl.out.kept (Grows.below (Nat.zero_le _) hb3))
          have HOw := Lib.hid (HOw.out.kept (Nat.zero_le _) hb3)
          have HBw := Lib.hid (bt HBw.out hb3)
          have hsz3 := HBw.out.size
          clear hb3
          go_wp2_with (at_builtin; refine wpList_pushL rfl (.tmp 51) (.tmp 53) rfl u8 rs0 A2 c2 r _ 0 w3.heap.size rfl rfl (HOw.out.kept (Nat.zero_le _) (ba _ _)) (HEl.out.alloc (Nat.zero_le _) _) HA2.out (heap_alloc_new _ _) ?c1 ?c2 ?_)
          case c1 => exact Nat.zero_le _
          case c2 => rw [HRl.out]; omega
          intro g9 cap9 w9 hlo9 hgr9 hat9 _
          have HOn := Lib.hid hlo9
          have HBn := Lib.hid ((bt HBw.out (ba w3 _)).grown hgr9 (by simp; omega) HOB.out)
          have HOBn := Lib.hid (show ∀ k, (Value.slice (some ⟨g9, 0, none⟩) (rs0.length + 1) cap9).ownBlock = some k → w.heap.size ≤ k from fun k hk => by
            cases hk
            rcases hat9 with hh | hh
            · exact HOB.out _ hh
            · rw [hh]; simp; omega)
          clear hlo9 hgr9 hat9
          go_wp2_with fail
          go_roundw
          case rel => exact ⟨j + 1, e + n, rs0 ++ [r], by omega, by go_num, by go_num, by omega, by omega, by simp [HRl.out], HOn, HOBn, HBn, HE⟩
          case measure => simp [intOf]; omega
        · have HE := Lib.hid (show res = none by rw [HO.out, hrt.trans (afterO_place rs0 hv hpc)])
          have hpc' : (placeP p j != (e : Int)) = true := by rw [bne_iff_ne]; exact hpc
          clear hgt hv hrt hbd hbl hok hput hpc
          go_wp2_with fail
          refine HG.out.mono ?_
          rintro e2 w2 ⟨hb2, A2, c2, rfl, hr2, hA2, ht2⟩
          have HBw := Lib.hid (bt HBw.out hb2)
          clear hb2 hr2 hA2 ht2
          go_wp2_with fail
          refine (HPl.out _ (HH.out.kept HBw.out)).mono ?_
          rintro e3 w3 ⟨rfl, hb3⟩
          have HBw := Lib.hid (bt HBw.out hb3)
          clear hb3
          go_wp2_with fail
          go_ret3
          refine ⟨HBw.out, ?_⟩
          rw [HE.out]
          rfl
    · obtain rfl : j = K := by omega
      have hsl := run_cut3 (some ⟨b, off, none⟩) 256 c e pl he (by omega)
      have hbd := (HH.out.kept HBw.out).cut pl e
      have hbl : ((p.take pl).drop e).length = pl - e := by rw [List.length_drop, List.length_take, HL.out]; omega
      have hfin := HEq.out
      rw [Nat.sub_self] at hfin
      have hfin2 : openL p pl 0 j 1 = some (rs0, e) := by rw [hfin]; simp [openL, afterO]
      have hres := HO.out
      rw [hfin2] at hres
      simp only at hres
      generalize adv (some ⟨b, off, none⟩) pl e = A' at hsl hbd
      have HK := Lib.hid (fun bb hbb => containsOdd_b bb A' (pl - e) (pl - e) _ wr hbd hbl (by omega) hbb)
      obtain ⟨A9, c9, rfl, hr9, hA9, hc9⟩ := own_end HOw.out
      have HR9 := Lib.hid hr9
      have HA9 := Lib.hid hA9
      have HC9 := Lib.hid hc9
      rw [HRl.out]
      cases hz : ((p.take pl).drop e).any oddB
      · rw [hz] at hres
        have HE := Lib.hid (show res = some (rs0, e) by rw [hres]; rfl)
        have HZ := Lib.hid (HK.out false hz)
        clear hfin hfin2 hres hz hbd hbl hr9 hA9 hc9 HK
        go_wp2_with fail
        refine HZ.out.mono ?_
        rintro e2 w2 ⟨rfl, rfl⟩
        go_wp2_with fail
        go_ret3
        refine ⟨HBw.out, ?_⟩
        rw [HE.out]
        exact ⟨A9, c9, by simp [HRl.out], HR9.out, HA9.out, HC9.out, HOw.out⟩
      · rw [hz] at hres
        have HE := Lib.hid (show res = none by rw [hres]; rfl)
        have HZ := Lib.hid (HK.out true hz)
        clear hfin hfin2 hres hz hbd hbl hr9 hA9 hc9 HK
        go_wp2_with fail
        refine HZ.out.mono ?_
        rintro e2 w2 ⟨rfl, rfl⟩
        go_wp2_with fail
        go_ret3
        refine ⟨HBw.out, ?_⟩
        rw [HE.out]
        rfl
end Go.Proofs.Ytdjhoiamongdaaa
