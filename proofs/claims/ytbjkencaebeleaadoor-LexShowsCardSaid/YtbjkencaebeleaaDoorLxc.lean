/-
  All, walked.
-/
import Derived.Test.YtbjkencaebeleaaDoorLxb
namespace Go.Proofs.YtbjkencaebeleaaDoor
open Go.RowKit Go.Shelf

theorem tks_one' (a : Int) (b : ByteArray) (c d : Int) : ∀ u ∈ [Value.int .i64 a, .string b, .int .i64 c, .int .i64 d], u.oneCell' = true := by
  intro u hu
  simp at hu
  rcases hu with rfl | rfl | rfl | rfl <;> rfl
set_option maxHeartbeats 2000000 in
theorem all_any (s : ByteArray) (w : World) (hs : s.size ≤ 16384) (hT : Tabs w) :
    Calls Tryd.prog 6 #[.string s] w fun e w' => ∃ v, e = .returned v ∧ AllV w.heap.size w' (Lx.lx (s.size + 1) (bs s) 0 0) v ∧ Below w.heap.size w w' := by
  obtain ⟨i0, hi, hz0, hz1, hz2⟩ := infoX_parts info_tok
  have HT := Lib.hid hT
  obtain ⟨R, hR⟩ : ∃ R, Lx.lx (s.size + 1) (bs s) 0 0 = R := ⟨_, rfl⟩
  rw [hR]
  have HR := Lib.hid hR
  clear hR hT
  go_enter Tryd.func6, Tryd.ntmps6
  go_wp2_with fail
  go_loopw [5, 6] (fun v i W => ∃ (a f : Nat) (ts : List TkA), a ≤ s.size ∧ s.size - a < f ∧ ts.length ≤ 4096 ∧ i = .int .i64 a ∧ Hid (Told w.heap.size w W v ts) ∧ Hid (R = Lx.pre ts (Lx.lx f ((bs s).drop a) ts.length a))) (fun _ i _ => s.size - (intOf i).toNat)
  case atStart =>
    refine ⟨0, s.size + 1, [], Nat.zero_le _, by omega, by simp, rfl, Lib.hid ⟨World.ownsRow_nil _ _ _ _, Below.refl _ _, Nat.le_refl _⟩, Lib.hid ?_⟩
    rw [List.drop_zero, List.length_nil, HR.out]
    cases R <;> simp [Lx.pre]
  case round =>
    obtain ⟨a, f, ts, ha, hf, hl, rfl, HO, HQ⟩ := hrel
    obtain ⟨f, rfl⟩ : ∃ g, f = g + 1 := ⟨f - 1, by omega⟩
    obtain ⟨A, cap, hv⟩ := HO.out.slice
    subst hv
    have hsk := Lx.sk_le false ((bs s).drop a)
    rw [List.length_drop, bs_len] at hsk
    obtain ⟨p, hp⟩ : ∃ p, a + Lx.sk false ((bs s).drop a) = p := ⟨_, rfl⟩
    have hps : p ≤ s.size := by omega
    have hap : a ≤ p := by omega
    have HP := Lib.hid hp
    have HB := Lib.hid (show bs (s.extract p s.size) = ((bs s).drop a).drop (Lx.sk false ((bs s).drop a)) by rw [bs_from, List.drop_drop, hp])
    have HSz := Lib.hid (show (s.extract p s.size).size = s.size - p by simp [ByteArray.size_extract])
    clear hsk hp
    go_wp2_with fail
    refine (skip_any s a _ (by omega) ha).mono ?_
    rintro e wr ⟨rfl, rfl⟩
    rw [HP.out]
    go_wp2_with fail
    refine (cut_any (s.extract p s.size) _ (by rw [HSz.out]; omega) (HT.out.kept HO.out.bel)).mono ?_
    rintro e w2 ⟨v, rfl, hv, hb⟩
    have HO2 := Lib.hid (HO.out.below hb)
    clear hb
    cases hc : Lx.cut (bs (s.extract p s.size)) with
    | none =>
      rw [hc] at hv
      obtain rfl : v = noTok := hv
      have HN := Lib.hid (show R = .bad p 90 by rw [HQ.out, lx_none (by rw [← HB.out]; exact hc), HP.out]; rfl)
      go_wp2_with fail
      refine bodyPost_ret (v := .tuple #[.slice none 0 0, .int .i64 p, .int .i64 90]) (by simp [results, Tryd.results6, go_sem]) rfl ⟨_, rfl, ?_, ?_⟩
      · rw [HN.out]; rfl
      · exact HO2.out.bel.trans ((ba w2 _).mono HO2.out.le)
    | some x =>
      obtain ⟨t, z⟩ := x
      rw [hc] at hv
      obtain ⟨hz, b, hbs, rfl⟩ := hv
      obtain rfl := ba_eq hbs
      have hz' : z ≤ s.size - p := by rw [← HSz.out]; exact hz
      obtain ⟨hk0, hkz⟩ := cut_kind hc
      have HC := Lib.hid (show Lx.cut (((bs s).drop a).drop (Lx.sk false ((bs s).drop a))) = some (t, z) by rw [← HB.out]; exact hc)
      have HK := Lib.hid hkz
      clear hz hbs hc hkz
      have hk0' : ¬ (t.k : Int) = 0 := by omega
      by_cases h4 : ts.length = 4096
      · have HN := Lib.hid (show R = .bad p 3 by rw [HQ.out, h4, lx_long HC.out, HP.out]; rfl)
        go_wp2_with fail
        refine bodyPost_ret (v := .tuple #[.slice none 0 0, .int .i64 p, .int .i64 3]) (by simp [results, Tryd.results6, go_sem]) rfl ⟨_, rfl, ?_, ?_⟩
        · rw [HN.out]; rfl
        · exact HO2.out.bel.trans ((ba w2 _).mono HO2.out.le)
      · by_cases h6 : t.k = 6
        · have HN := Lib.hid (show R = .ok (ts ++ [(t, p)]) p by rw [HQ.out, lx_fin HC.out h4 h6, HP.out]; rfl)
          have h6' : (t.k : Int) = 6 := by omega
          have H6 := Lib.hid h6
          clear h6
          go_wp2_with (at_builtin; refine wpList_append_own _ rfl _ _ 23 rfl w.heap.size 32 i0 _ 4 40 Tryd.underlying23 hi hz0 hz1 hz2 rfl (by decide) _ _ _ rfl ((HO2.out.below (ba w2 _)).own.alloc _) ⟨w2.heap.size + 1, 0, none⟩ 1 1 [.int .i64 6, .string ⟨t.s.toArray⟩, .int .i64 t.n, .int .i64 p] rfl rfl ?c1 ?c2 ?c3 ?c4 ?c5 ?_)
          case c1 =>
            intro j u hj
            match j, hj with
            | 0, hj => simp at hj; subst hj; simp [Addr.add]
            | 1, hj => simp at hj; subst hj; simp [Addr.add]
            | 2, hj => simp at hj; subst hj; simp [Addr.add]
            | 3, hj => simp at hj; subst hj; simp [Addr.add]
          case c2 => exact tks_one' _ _ _ _
          case c3 => unfold maxLen; omega
          case c4 => omega
          case c5 => have := HO2.out.le; simp; omega
          intro v' w1 hown' hg _
          have HG := Lib.hid ((HO2.out.below (ba w2 _)).grow (t, p) (by rw [show tkc (t, p) = [.int .i64 6, .string ⟨t.s.toArray⟩, .int .i64 t.n, .int .i64 p] by simp [tkc, H6.out]]; exact hown') hg)
          clear hown' hg
          go_wp2_with fail
          refine bodyPost_ret (v := .tuple #[v', .int .i64 p, .int .i64 0]) (by simp [results, Tryd.results6, go_sem]) rfl ⟨_, rfl, ?_, HG.out.bel⟩
          rw [HN.out]
          exact ⟨v', rfl, HG.out.own⟩
        · have h6' : ¬ (t.k : Int) = 6 := by omega
          have HN := Lib.hid (show R = Lx.pre (ts ++ [(t, p)]) (Lx.lx f ((bs s).drop (p + z)) (ts.length + 1) (p + z)) by
            rw [HQ.out, lx_more HC.out h4 h6, List.drop_drop, List.drop_drop, HP.out, ← Nat.add_assoc, HP.out])
          have hz0' := HK.out h6
          clear h6
          go_wp2_with (at_builtin; refine wpList_append_own _ rfl _ _ 23 rfl w.heap.size 32 i0 _ 4 40 Tryd.underlying23 hi hz0 hz1 hz2 rfl (by decide) _ _ _ rfl ((HO2.out.below (ba w2 _)).own.alloc _) ⟨w2.heap.size + 1, 0, none⟩ 1 1 [.int .i64 t.k, .string ⟨t.s.toArray⟩, .int .i64 t.n, .int .i64 p] rfl rfl ?c1 ?c2 ?c3 ?c4 ?c5 ?_)
          case c1 =>
            intro j u hj
            match j, hj with
            | 0, hj => simp at hj; subst hj; simp [Addr.add]
            | 1, hj => simp at hj; subst hj; simp [Addr.add]
            | 2, hj => simp at hj; subst hj; simp [Addr.add]
            | 3, hj => simp at hj; subst hj; simp [Addr.add]
          case c2 => exact tks_one' _ _ _ _
          case c3 => unfold maxLen; omega
          case c4 => omega
          case c5 => have := HO2.out.le; simp; omega
          intro v' w1 hown' hg _
          have HG := Lib.hid ((HO2.out.below (ba w2 _)).grow (t, p) hown' hg)
          clear hown' hg
          go_wp2_with fail
          go_roundw
          case rel => exact ⟨p + z, f, ts ++ [(t, p)], by omega, by omega, by simp; omega, by go_num, HG, by rw [List.length_append]; exact HN⟩
          case measure => simp [intOf]; omega
end Go.Proofs.YtbjkencaebeleaaDoor
