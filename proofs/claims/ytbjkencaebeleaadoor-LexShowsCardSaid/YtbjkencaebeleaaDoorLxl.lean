/-
  The walk of LexShows.
-/
import Derived.Test.YtbjkencaebeleaaDoorLxk
namespace Go.Proofs.YtbjkencaebeleaaDoor
open Go.RowKit Go.Shelf

theorem sz_mk (l : Lx.B) : (⟨l.toArray⟩ : ByteArray).size = l.length := by simp [ByteArray.size]
theorem tokOf_len {w : Lx.B} {t : Lx.Tok} (h : Lx.TokOf w t) : t.s.length ≤ w.length + 64 := by
  cases h with
  | word _ _ _ _ => simp
  | num _ _ _ => simp
  | text hs => simp only; omega
  | sign _ => simp
theorem toks_sane {l : Lx.B} {a : Nat} {ts : List TkA} {n : Nat} (h : Lx.Toks l a ts n) : ∀ x ∈ ts, x.1.s.length ≤ l.length + 64 ∧ (x.1.k = 6 → x.1.s = []) := by
  induction h with
  | fin _ => intro x hx; simp at hx; subst hx; simp
  | @tok l w r a t ts n hd ht hf hr ih =>
    have hlen := congrArg List.length hd
    rw [List.length_drop, List.length_append] at hlen
    intro x hx
    rcases List.mem_cons.1 hx with rfl | hx
    · exact ⟨by have := tokOf_len ht; simp only; omega, fun h6 => absurd h6 (Lx.tok_k ht).1⟩
    · exact ⟨by have := (ih x hx).1; omega, (ih x hx).2⟩
theorem shows_plain {s : ByteArray} {a : List TkA} {n : Nat} (h1 : Lx.lx (s.size + 1) (bs s) 0 0 = .ok a n) :
    (Lx.shw (a.map (·.1))).length ≤ 2 * s.size ∧ (∀ x ∈ a, x.1.s.length ≤ s.size + 64 ∧ (x.1.k = 6 → x.1.s = [])) ∧
    ∃ us m, Lx.lx ((⟨(Lx.shw (a.map (·.1))).toArray⟩ : ByteArray).size + 1) (bs (⟨(Lx.shw (a.map (·.1))).toArray⟩ : ByteArray)) 0 0 = .ok us m ∧ us.map (·.1) = a.map (·.1) := by
  obtain ⟨t1, hl⟩ := Lx.toks_of _ _ _ _ _ _ (Nat.zero_le _) h1
  obtain ⟨h2, h3⟩ := t1.shown
  obtain ⟨us, m, h4, h5⟩ := h3 0
  have h6 := toks_sane t1
  rw [bs_len] at h2 h6
  have e : bs (⟨(Lx.shw (a.map (·.1))).toArray⟩ : ByteArray) = Lx.shw (a.map (·.1)) := by simp [bs]
  refine ⟨h2, h6, us, m, ?_, h5⟩
  rw [e]
  refine Lx.toks_lx h4 _ 0 ?_ ?_
  · have := congrArg List.length h5
    rw [List.length_map, List.length_map] at this
    omega
  · rw [sz_mk]; exact Nat.lt_succ_self _

set_option maxRecDepth 100000 in
set_option maxHeartbeats 8000000 in
theorem shows_in (s : ByteArray) (w : World) (hs : s.size ≤ 4000) (hT : Tabs w) :
    Calls Tryd.prog 3 #[.string s] w fun e w' => e = .returned (.bool true) ∧ Below w.heap.size w w' := by
  have HT := Lib.hid hT
  clear hT
  go_enter Tryd.func3, Tryd.ntmps3
  go_wp2_with fail
  refine (all_any s _ (by omega) HT.out).mono ?_
  rintro e w1 ⟨v1, rfl, hv, hb⟩
  obtain ⟨l1, n1, e1, rfl⟩ := hv.form
  have HV1 := Lib.hid hv
  have HB1 := Lib.hid hb
  have HT1 := Lib.hid (HT.out.kept hb)
  clear hv hb
  go_wp2_with fail
  refine (lives_yes _ HT1.out).mono ?_
  rintro e w2 ⟨rfl, hb⟩
  have HB2 := Lib.hid hb
  have HT2 := Lib.hid (HT1.out.kept hb)
  have HBb := Lib.hid (bt HB1.out hb)
  clear hb
  cases hr1 : Lx.lx (s.size + 1) (bs s) 0 0 with
  | bad n e =>
    have hv := HV1.out
    rw [hr1] at hv
    have he := lx_bad _ _ _ _ _ _ (by rw [bs_len]; omega) hr1
    simp only [AllV, Value.tuple.injEq] at hv
    obtain ⟨rfl, rfl, rfl⟩ : l1 = .slice none 0 0 ∧ n1 = n ∧ e1 = e := by simpa using hv
    have he' : ¬ (e : Int) = 0 := by omega
    clear hv he
    go_wp2_with fail
    refine (lives_yes _ HT2.out).mono ?_
    rintro e w5 ⟨rfl, hb⟩
    have HBd := Lib.hid (bt HBb.out hb)
    clear hb
    go_wp2_with fail
    go_ret
    exact ⟨rfl, HBd.out⟩
  | ok a n =>
    obtain ⟨la, hv1, ho1⟩ : ∃ l, Value.tuple #[l1, .int .i64 n1, .int .i64 e1] = .tuple #[l, .int .i64 n, .int .i64 0] ∧ w1.ownsRow w.heap.size 32 4 l a.length (tks a) := by have := HV1.out; rwa [hr1] at this
    obtain ⟨rfl, rfl, rfl⟩ : l1 = la ∧ n1 = n ∧ e1 = 0 := by simpa using hv1
    obtain ⟨hane, hal⟩ := ok_ne hr1
    obtain ⟨g1, c1, rfl, hat1, hcap1⟩ := Told.reads2 ho1 hane
    have HA2 := Lib.hid (hat1.kept HB2.out)
    obtain ⟨hl, hsn, us, m, hus, hum⟩ := shows_plain hr1
    have HSn := Lib.hid hsn
    have HUs := Lib.hid hus
    have HUm := Lib.hid hum
    have hulen : us.length = a.length := by have := congrArg List.length hum; simpa using this
    clear hv1 ho1 hat1 hr1 HV1 hsn hus hum
    go_wp2_with fail
    refine (shows_any _ _ a _ HA2.out HT2.out hal (fun x hx => by have := (HSn.out x hx).1; omega) (by omega)).mono ?_
    rintro e w3 ⟨rfl, hb⟩
    obtain ⟨T, hTq⟩ : ∃ T : ByteArray, (⟨(Lx.shw (a.map (·.1))).toArray⟩ : ByteArray) = T := ⟨_, rfl⟩
    have HTq := Lib.hid hTq
    have hTl : T.size ≤ 2 * s.size := by rw [← hTq, sz_mk]; exact hl
    have hTs : T.size ≤ 8000 := by omega
    have HU2 := Lib.hid (show Lx.lx (T.size + 1) (bs T) 0 0 = .ok us m by rw [← hTq]; exact HUs.out)
    rw [hTq]
    have HA3 := Lib.hid (HA2.out.kept hb)
    have HT3 := Lib.hid (HT2.out.kept hb)
    have HBc := Lib.hid (bt HBb.out hb)
    clear hb hTq HUs
    go_wp2_with fail
    refine (all_any T _ (by omega) HT3.out).mono ?_
    rintro e w4 ⟨v3, rfl, hv, hb⟩
    rw [HU2.out] at hv
    obtain ⟨lb, rfl, ho3⟩ := hv
    have hune : us ≠ [] := by intro h; rw [h] at hulen; simp at hulen; exact hane (List.eq_nil_of_length_eq_zero hulen.symm)
    obtain ⟨g2, c2, rfl, hat2⟩ := Told.reads ho3 hune
    rw [hulen]
    have HA4 := Lib.hid (HA3.out.kept hb)
    have HU4 := Lib.hid hat2
    have HT4 := Lib.hid (HT3.out.kept hb)
    have HBd := Lib.hid (bt HBc.out hb)
    clear hb ho3 hat2 HU2
    go_wp2_with fail
    refine (refShow_any _ _ a _ HA4.out hal (fun x hx => ⟨by have := (HSn.out x hx).1; omega, (HSn.out x hx).2⟩)).mono ?_
    rintro e w5 ⟨rfl, hb⟩
    rw [HTq.out]
    have HA5 := Lib.hid (HA4.out.kept hb)
    have HU5 := Lib.hid (HU4.out.kept hb)
    have HBe := Lib.hid (bt HBd.out hb)
    clear hb
    go_wp2_with fail
    have hq := same_yes _ _ c1 c2 a us false _ HA5.out HU5.out HUm.out.symm (fun h => by cases h) (by omega)
    rw [hulen] at hq
    have HQ := Lib.hid hq
    clear hq
    refine HQ.out.mono ?_
    rintro e w6 ⟨rfl, hb⟩
    have HBf := Lib.hid (bt HBe.out hb)
    clear hb
    go_wp2_with fail
    go_ret
    exact ⟨rfl, HBf.out⟩
theorem shows_walk (s : ByteArray) (w : World) (hT : Tabs w) :
    Calls Tryd.prog 3 #[.string s] w fun e w' => e = .returned (.bool true) ∧ Below w.heap.size w w' := by
  by_cases hs : s.size ≤ 4000
  · exact shows_in s w hs hT
  · go_enter Tryd.func3, Tryd.ntmps3
    go_wp2_with fail
    refine (lives_yes _ hT).mono ?_
    rintro e w1 ⟨rfl, hb⟩
    go_wp2_with fail
    go_ret
    exact ⟨rfl, hb⟩
end Go.Proofs.YtbjkencaebeleaaDoor
