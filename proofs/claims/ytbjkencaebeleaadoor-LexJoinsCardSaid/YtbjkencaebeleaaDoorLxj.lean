/-
  The walk of LexJoins.
-/
import Derived.Test.YtbjkencaebeleaaDoorLxi
namespace Go.Proofs.YtbjkencaebeleaaDoor
open Go.RowKit Go.Shelf

theorem size_tok : ∀ w, (sizeOf 32).run Tryd.prog w = .ok 4 w := by
  intro w
  obtain ⟨i0, hi, hz0, hz1, hz2⟩ := infoX_parts info_tok
  simp [sizeOf, typeInfo, hi, hz1]
theorem run_uptoT (g L c k : Nat) (hk : k ≤ c) (W : World) :
    (Instr.slice 23 (.slice (some ⟨g, 0, none⟩) L c) none (some (.int .i64 (k : Int))) none).run Tryd.prog W = .ok (.slice (some ⟨g, 0, none⟩) k c) W := by
  have ht := Tryd.underlying23
  have ht' : Tryd.prog.underlying 23 = some (.slice (Tryd.prog.elem 23)) := by simp [Program.elem, ht]
  have he : Tryd.prog.elem 23 = 32 := by simp [Program.elem, ht]
  rw [run_slice_h W _ _ _ _ ht' .i64 _ (by omega) (by omega), he, size_tok]
  simp [Result.andThen, sliced, Addr.add]
theorem run_fromT (g L c k : Nat) (hl : k ≤ L) (hk : k < c) (W : World) :
    (Instr.slice 23 (.slice (some ⟨g, 0, none⟩) L c) (some (.int .i64 (k : Int))) none none).run Tryd.prog W = .ok (.slice (some ⟨g, k * 4, none⟩) (L - k) (c - k)) W := by
  have ht := Tryd.underlying23
  have ht' : Tryd.prog.underlying 23 = some (.slice (Tryd.prog.elem 23)) := by simp [Program.elem, ht]
  have he : Tryd.prog.elem 23 = 32 := by simp [Program.elem, ht]
  rw [run_slice_l W _ _ _ _ ht' .i64 _ (by omega) (by omega), he, size_tok]
  have hn : ¬ c = k := by omega
  rcases Nat.eq_zero_or_pos k with h0 | h0
  · subst h0; simp [Result.andThen, sliced, Addr.add]
  · simp [Result.andThen, sliced, Addr.add, hn]
    omega
set_option maxRecDepth 100000 in
set_option maxHeartbeats 8000000 in
theorem joins_in (s t : ByteArray) (w : World) (hs : s.size ≤ 2000) (ht : t.size ≤ 2000) (hT : Tabs w) :
    Calls Tryd.prog 4 #[.string s, .string t] w fun e w' => e = .returned (.bool true) ∧ Below w.heap.size w w' := by
  have HT := Lib.hid hT
  have HS1 := Lib.hid (show ((⟨#[10]⟩ : ByteArray).size) = 1 from rfl)
  have hz1 : (s ++ (⟨#[10]⟩ : ByteArray)).size = s.size + 1 := by simp [ByteArray.size_append]; rfl
  have hz2 : (s ++ (⟨#[10]⟩ : ByteArray) ++ t).size = s.size + 1 + t.size := by rw [ByteArray.size_append, hz1]
  have HU := Lib.hid (show bs (s ++ (⟨#[10]⟩ : ByteArray) ++ t) = bs s ++ 10 :: bs t by simp [bs])
  clear hT
  go_enter Tryd.func4, Tryd.ntmps4
  go_wp2_with fail
  refine (all_any s _ (by omega) HT.out).mono ?_
  rintro e w1 ⟨v1, rfl, hv, hb⟩
  obtain ⟨l1, n1, e1, rfl⟩ := hv.form
  have HV1 := Lib.hid hv
  have HB1 := Lib.hid hb
  have HT1 := Lib.hid (HT.out.kept hb)
  clear hv hb
  go_wp2_with fail
  refine (all_any t _ (by omega) HT1.out).mono ?_
  rintro e w2 ⟨v2, rfl, hv, hb⟩
  obtain ⟨l2, n2, e2, rfl⟩ := hv.form
  have HV2 := Lib.hid hv
  have HB2 := Lib.hid hb
  have HT2 := Lib.hid (HT1.out.kept hb)
  clear hv hb
  go_wp2_with fail
  refine (all_any (s ++ (⟨#[10]⟩ : ByteArray) ++ t) _ (by omega) HT2.out).mono ?_
  rintro e w3 ⟨v3, rfl, hv, hb⟩
  obtain ⟨l3, n3, e3, rfl⟩ := hv.form
  have HV3 := Lib.hid hv
  have HB3 := Lib.hid hb
  have HT3 := Lib.hid (HT2.out.kept hb)
  clear hv hb
  have HBb := Lib.hid (bt (bt HB1.out HB2.out) HB3.out)
  go_wp2_with fail
  refine (lives_yes _ HT3.out).mono ?_
  rintro e w4 ⟨rfl, hb⟩
  have HB4 := Lib.hid hb
  have HT4 := Lib.hid (HT3.out.kept hb)
  have HBc := Lib.hid (bt HBb.out hb)
  clear hb
  cases hr1 : Lx.lx (s.size + 1) (bs s) 0 0 with
  | bad n e =>
    have hv := HV1.out
    rw [hr1] at hv
    have he := lx_bad _ _ _ _ _ _ (by rw [bs_len]; omega) hr1
    simp only [AllV, Value.tuple.injEq] at hv
    obtain ⟨rfl, rfl, rfl⟩ : l1 = .slice none 0 0 ∧ n1 = n ∧ e1 = e := by simpa using hv
    have he' : ¬ (e : Int) = 0 := by omega
    clear hv he
    go_wp2_with fail
    refine (lives_yes _ HT4.out).mono ?_
    rintro e w5 ⟨rfl, hb⟩
    have HBd := Lib.hid (bt HBc.out hb)
    clear hb
    go_wp2_with fail
    go_ret
    exact ⟨rfl, HBd.out⟩
  | ok a n =>
    obtain ⟨la, hv1, ho1⟩ : ∃ l, Value.tuple #[l1, .int .i64 n1, .int .i64 e1] = .tuple #[l, .int .i64 n, .int .i64 0] ∧ w1.ownsRow w.heap.size 32 4 l a.length (tks a) := by have := HV1.out; rwa [hr1] at this
    obtain ⟨rfl, rfl, rfl⟩ : l1 = la ∧ n1 = n ∧ e1 = 0 := by simpa using hv1
    obtain ⟨hane, hal⟩ := ok_ne hr1
    obtain ⟨g1, c1, rfl, hat1, hcap1⟩ := Told.reads2 ho1 hane
    have HA1 := Lib.hid (((hat1.kept HB2.out).kept HB3.out).kept HB4.out)
    clear hv1 ho1 hat1
    cases hr2 : Lx.lx (t.size + 1) (bs t) 0 0 with
    | bad n e =>
      have hv := HV2.out
      rw [hr2] at hv
      have he := lx_bad _ _ _ _ _ _ (by rw [bs_len]; omega) hr2
      obtain ⟨rfl, rfl, rfl⟩ : l2 = .slice none 0 0 ∧ n2 = n ∧ e2 = e := by simpa [AllV] using hv
      have he' : ¬ (e : Int) = 0 := by omega
      clear hv he
      go_wp2_with fail
      refine (lives_yes _ HT4.out).mono ?_
      rintro e w5 ⟨rfl, hb⟩
      have HBd := Lib.hid (bt HBc.out hb)
      clear hb
      go_wp2_with fail
      go_ret
      exact ⟨rfl, HBd.out⟩
    | ok b m =>
      obtain ⟨lb, hv2, ho2⟩ : ∃ l, Value.tuple #[l2, .int .i64 n2, .int .i64 e2] = .tuple #[l, .int .i64 m, .int .i64 0] ∧ w2.ownsRow w1.heap.size 32 4 l b.length (tks b) := by have := HV2.out; rwa [hr2] at this
      obtain ⟨rfl, rfl, rfl⟩ : l2 = lb ∧ n2 = m ∧ e2 = 0 := by simpa using hv2
      obtain ⟨hbne, hbl⟩ := ok_ne hr2
      obtain ⟨g2, c2, rfl, hat2⟩ := Told.reads ho2 hbne
      have HA2 := Lib.hid ((hat2.kept HB3.out).kept HB4.out)
      clear hv2 ho2 hat2
      by_cases hab : 4096 < a.length + b.length
      · go_wp2_with fail
        refine (lives_yes _ HT4.out).mono ?_
        rintro e w5 ⟨rfl, hb⟩
        have HBd := Lib.hid (bt HBc.out hb)
        clear hb
        go_wp2_with fail
        go_ret
        exact ⟨rfl, HBd.out⟩
      · have HR3 := Lib.hid (joins_plain HU.out hr1 hr2 (by omega))
        obtain ⟨q, hq⟩ : ∃ q, (a.dropLast ++ b.map fun x => (x.1, x.2 + (n + 1))) = q := ⟨_, rfl⟩
        have hql : q.length = a.length - 1 + b.length := by rw [← hq]; simp
        obtain ⟨k, hak⟩ : ∃ k, a.length = k + 1 := ⟨a.length - 1, by have := List.length_pos_iff.2 hane; omega⟩
        rw [hak, Nat.add_sub_cancel] at hql
        have hnb := lx_place hr1
        have hmb := lx_place hr2
        have hb1 : 1 ≤ b.length := List.length_pos_iff.2 hbne
        obtain ⟨lc, hv3, ho3⟩ : ∃ l, Value.tuple #[l3, .int .i64 n3, .int .i64 e3] = .tuple #[l, .int .i64 (n + 1 + m : Nat), .int .i64 0] ∧ w3.ownsRow w2.heap.size 32 4 l q.length (tks q) := by
          have := HV3.out; rw [HR3.out] at this; rw [← hq]; exact this
        obtain ⟨rfl, rfl, rfl⟩ : l3 = lc ∧ n3 = (n + 1 + m : Nat) ∧ e3 = 0 := by simpa using hv3
        obtain ⟨g3, c3, rfl, hat3, hcap3⟩ := Told.reads2 ho3 (by intro h; rw [h] at hql; simp at hql; omega)
        have HA3 := Lib.hid (hat3.kept HB4.out)
        have HQ := Lib.hid hq
        clear hv3 ho3 hat3 hq hr1 hr2 HV1 HV2 HV3 HR3
        rw [hak, hql]
        have HJ := Lib.hid (show JI w g1 g2 g3 a b q w4 from ⟨HA1.out, HA2.out, HA3.out, HBc.out⟩)
        have HJd := Lib.hid HJ.out.drew
        have HD := Lib.hid (show ∀ w', JI w g1 g2 g3 a b q w' → Calls Tryd.prog 9 #[.slice (some ⟨g1, 0, none⟩) k c1, .slice (some ⟨g3, 0, none⟩) k c3, .bool true] w' fun e w'' => e = .returned (.bool true) ∧ JI w g1 g2 g3 a b q w'' by
          intro w' hJ
          have hd : a.dropLast.length = k := by simp [hak]
          have h1 : TkAt w' (some ⟨g1, 0, none⟩) a.dropLast := TkAt.take (r := [a.getLast hane]) (by rw [List.dropLast_concat_getLast]; exact hJ.1)
          have h3 : TkAt w' (some ⟨g3, 0, none⟩) a.dropLast := TkAt.take (r := b.map fun x => (x.1, x.2 + (n + 1))) (by rw [HQ.out]; exact hJ.2.2.1)
          have := same_yes _ _ c1 c3 a.dropLast a.dropLast true w' h1 h3 rfl (fun _ => rfl) (by omega)
          rw [hd] at this
          exact this.mono fun e w'' hh => ⟨hh.1, hJ.kept hh.2⟩)
        have HE := Lib.hid (show ∀ w' c, JI w g1 g2 g3 a b q w' → Calls Tryd.prog 9 #[.slice (some ⟨g2, 0, none⟩) b.length c2, .slice (some ⟨g3, k * 4, none⟩) b.length c, .bool false] w' fun e w'' => e = .returned (.bool true) ∧ JI w g1 g2 g3 a b q w'' by
          intro w' c hJ
          have hd : q.drop k = b.map fun x => (x.1, x.2 + (n + 1)) := by rw [← HQ.out]; exact List.drop_left' (by simp [hak])
          have h3 := hJ.2.2.1.part k
          rw [hd] at h3
          have := same_yes _ _ c2 c b _ false w' hJ.2.1 h3 (by rw [List.map_map]; rfl) (fun h => by cases h) (by omega)
          rw [List.length_map] at this
          exact this.mono fun e w'' hh => ⟨hh.1, hJ.kept hh.2⟩)
        have HH := Lib.hid (show ∀ w' args, JI w g1 g2 g3 a b q w' → (args = #[.slice (some ⟨g1, 0, none⟩) k c1, .slice (some ⟨g3, 0, none⟩) k c3, .bool true] ∨ ∃ c, args = #[.slice (some ⟨g2, 0, none⟩) b.length c2, .slice (some ⟨g3, k * 4, none⟩) b.length c, .bool false]) → Calls Tryd.prog 9 args w' fun e w'' => e = .returned (.bool true) ∧ JI w g1 g2 g3 a b q w'' by
          rintro w' args hJ (rfl | ⟨c, rfl⟩)
          · exact HD.out w' hJ
          · exact HE.out w' c hJ)
        clear HA1 HA2 HA3 HQ HB1 HB2 HB3 HB4 HD HE
        have b0 : (0 : Int) ≤ (k : Int) := by omega
        have b12 : (k : Int) ≤ 4095 := by omega
        have b13 : (k : Int) + 1 ≤ 4096 := by omega
        have b1 : (k : Int) ≤ (c1 : Int) := by omega
        have b3 : (k : Int) ≤ (c3 : Int) := by omega
        have b4 : (k : Int) ≤ ((k + b.length : Nat) : Int) := by omega
        have b5 : ((k + b.length : Nat) : Int) ≤ (c3 : Int) := by omega
        go_upto_region 10 with fail
        have hcA := run_uptoT g1 (k + 1) c1 k (by omega)
        have hcC := run_uptoT g3 (k + b.length) c3 k (by omega)
        have hcD := run_fromT g3 (k + b.length) c3 k (by omega) (by omega)
        rw [Nat.add_sub_cancel_left] at hcD
        have b14 : IntKind.i64.wrap (k : Int) = (k : Int) := by rw [IntKind.wrap_i64]; omega
        go_region_held3 (fun w' => JI w g1 g2 g3 a b q w')
          (first | exact HJd.out | exact HJ.out | assumption | exact JI.drew (by assumption))
          (first
            | (go_at_call 9; refine (HH.out _ _ ?_ ?_).mono ?_; (first | exact HJd.out | exact HJ.out | assumption | exact JI.drew (by assumption)); (first | exact Or.inl (Eq.refl _) | exact Or.inr ⟨_, Eq.refl _⟩); rintro e w5 ⟨rfl, hJ⟩))
        rename_i hold
        go_wp2_with fail
        go_ret
        exact ⟨rfl, hold.2.2.2⟩
theorem joins_walk (s t : ByteArray) (w : World) (hT : Tabs w) :
    Calls Tryd.prog 4 #[.string s, .string t] w fun e w' => e = .returned (.bool true) ∧ Below w.heap.size w w' := by
  by_cases hs : s.size ≤ 2000
  · by_cases ht : t.size ≤ 2000
    · exact joins_in s t w hs ht hT
    · go_enter Tryd.func4, Tryd.ntmps4
      go_wp2_with fail
      refine (lives_yes _ hT).mono ?_
      rintro e w1 ⟨rfl, hb⟩
      go_wp2_with fail
      go_ret
      exact ⟨rfl, hb⟩
  · go_enter Tryd.func4, Tryd.ntmps4
    go_wp2_with fail
    refine (lives_yes _ hT).mono ?_
    rintro e w1 ⟨rfl, hb⟩
    go_wp2_with fail
    go_ret
    exact ⟨rfl, hb⟩
end Go.Proofs.YtbjkencaebeleaaDoor
