/-
  reckon with a closure.
-/
import Derived.Test.YtpokpiphnggfpaaGreatDoorZ7
section
namespace Go.Proofs.YtpokpiphnggfpaaGreatDoor
open Go.RowKit Go.Shelf

set_option maxHeartbeats 4000000 in
theorem reckonC (p : Value) (P : World → Prop) (hK : ∀ W W', P W → Below W.heap.size W W' → P W') (g : Nat) (f : Int → Int → Option Int) (hg : ∀ (a b : Int) (W : World), P W → inI a = true → inI b = true → Calls Tryz.prog g #[.int .i64 a, .int .i64 b, p] W fun e W' => e = .returned (fn2 (f a b)) ∧ Below W.heap.size W W')
    (eg : ∀ args w, (callFunc g args).run Tryz.prog w = .ok (.enter g args) w)
    (a b : Va) (w : World) (hP : P w) (ha : a.s.size ≤ 9223372036854775807) (hb' : b.s.size ≤ 9223372036854775807) :
    Calls Tryz.prog 35 #[VV a.k a.n a.s, VV b.k b.n b.s, .func (.func g) #[] #[p]] w fun e w' => e = .returned (rk2 (reckA f a b)) ∧ Below w.heap.size w w' := by
  have HG := Lib.hid hg
  have HK := Lib.hid hK
  clear hg hK
  obtain ⟨k, n, s⟩ := a
  obtain ⟨k', n', s'⟩ := b
  simp only at ha hb'
  have H3 := three w k n k' n' s s'
  have HA := Lib.hid H3.1
  have HB := Lib.hid H3.2.1
  have HR := Lib.hid H3.2.2.1
  have HW := Lib.hid H3.2.2.2
  have HP := Lib.hid (HK.out _ _ hP H3.2.2.2)
  clear H3 hP
  cases h1 : wrongA ⟨k, n, s⟩
  · cases h2 : wrongA ⟨k', n', s'⟩
    · have H1 := Lib.hid h1
      have H2 := Lib.hid h2
      have hno : ¬ (wrongA ⟨k, n, s⟩ = true ∨ wrongA ⟨k', n', s'⟩ = true) := by rw [h1, h2]; simp
      by_cases hk : k = 0
      · have Hf := Lib.hid (show reckA f ⟨k, n, s⟩ ⟨k', n', s'⟩ = some nullA by rw [reckA, if_neg hno, if_pos (.inl hk)])
        have hkb : (k == 0) = true := by simpa using hk
        clear h1 h2 hno hk
        go_enter Tryz.func35, Tryz.ntmps35
        go_upto_region 1 with fail
        generalize ((w.alloc (.cells #[.int .i64 k, .int .i64 n, .string s] 28)).alloc (.cells #[.int .i64 k', .int .i64 n', .string s'] 28)).alloc (.cells #[.int .i64 0, .int .i64 0, .string ⟨#[]⟩] 28) = W at HA HB HR HW HP ⊢
        obtain ⟨a0, a1, a2, _, _, _⟩ := HA.out
        obtain ⟨b0, b1, b2, _, _, _⟩ := HB.out
        obtain ⟨r0, r1, r2, f0, f1, f2⟩ := HR.out
        go_wp2_with fail
        refine (isWrong_any _ _ _ _ ha H1.out).mono ?_
        rintro e W ⟨rfl, hb⟩
        have HA := Lib.hid (HA.out.kept hb)
        have HB := Lib.hid (HB.out.kept hb)
        have HR := Lib.hid (HR.out.kept hb)
        have HW := Lib.hid (bt HW.out hb)
        have HP := Lib.hid (HK.out _ _ HP.out hb)
        clear hb a0 a1 a2 b0 b1 b2 r0 r1 r2 f0 f1 f2
        obtain ⟨a0, a1, a2, _, _, _⟩ := HA.out
        obtain ⟨b0, b1, b2, _, _, _⟩ := HB.out
        obtain ⟨r0, r1, r2, f0, f1, f2⟩ := HR.out
        go_wp2_with fail
        refine (isWrong_any _ _ _ _ hb' H2.out).mono ?_
        rintro e W ⟨rfl, hb⟩
        have HA := Lib.hid (HA.out.kept hb)
        have HB := Lib.hid (HB.out.kept hb)
        have HR := Lib.hid (HR.out.kept hb)
        have HW := Lib.hid (bt HW.out hb)
        have HP := Lib.hid (HK.out _ _ HP.out hb)
        clear hb a0 a1 a2 b0 b1 b2 r0 r1 r2 f0 f1 f2
        obtain ⟨a0, a1, a2, _, _, _⟩ := HA.out
        obtain ⟨b0, b1, b2, _, _, _⟩ := HB.out
        obtain ⟨r0, r1, r2, f0, f1, f2⟩ := HR.out
        go_wp2_with fail
        refine (isNull_any _ _ _ _).mono ?_
        rintro e W ⟨rfl, hb⟩
        have HA := Lib.hid (HA.out.kept hb)
        have HB := Lib.hid (HB.out.kept hb)
        have HR := Lib.hid (HR.out.kept hb)
        have HW := Lib.hid (bt HW.out hb)
        have HP := Lib.hid (HK.out _ _ HP.out hb)
        clear hb a0 a1 a2 b0 b1 b2 r0 r1 r2 f0 f1 f2
        obtain ⟨a0, a1, a2, _, _, _⟩ := HA.out
        obtain ⟨b0, b1, b2, _, _, _⟩ := HB.out
        obtain ⟨r0, r1, r2, f0, f1, f2⟩ := HR.out
        go_wp2_with fail
        refine (null_any _).mono ?_
        rintro e W ⟨rfl, hb⟩
        have HA := Lib.hid (HA.out.kept hb)
        have HB := Lib.hid (HB.out.kept hb)
        have HR := Lib.hid (HR.out.kept hb)
        have HW := Lib.hid (bt HW.out hb)
        have HP := Lib.hid (HK.out _ _ HP.out hb)
        clear hb a0 a1 a2 b0 b1 b2 r0 r1 r2 f0 f1 f2
        obtain ⟨a0, a1, a2, _, _, _⟩ := HA.out
        obtain ⟨b0, b1, b2, _, _, _⟩ := HB.out
        obtain ⟨r0, r1, r2, f0, f1, f2⟩ := HR.out
        go_wp2_with fail
        refine bodyPost_ret (v := .tuple #[VV 0 0 ⟨#[]⟩, .int .i64 0]) (by simp [results, Tryz.results35, go_sem, r0, r1, r2]) rfl ⟨?_, below_set3 HW.out (by omega)⟩
        rw [Hf.out]; rfl
      · have hkb : (k == 0) = false := by simpa using hk
        have hi := right_in h1 hk
        by_cases hk' : k' = 0
        · have Hf := Lib.hid (show reckA f ⟨k, n, s⟩ ⟨k', n', s'⟩ = some nullA by rw [reckA, if_neg hno, if_pos (.inr hk')])
          have hkb' : (k' == 0) = true := by simpa using hk'
          clear h1 h2 hno hk hk' hi
          go_enter Tryz.func35, Tryz.ntmps35
          go_upto_region 1 with fail
          generalize ((w.alloc (.cells #[.int .i64 k, .int .i64 n, .string s] 28)).alloc (.cells #[.int .i64 k', .int .i64 n', .string s'] 28)).alloc (.cells #[.int .i64 0, .int .i64 0, .string ⟨#[]⟩] 28) = W at HA HB HR HW HP ⊢
          obtain ⟨a0, a1, a2, _, _, _⟩ := HA.out
          obtain ⟨b0, b1, b2, _, _, _⟩ := HB.out
          obtain ⟨r0, r1, r2, f0, f1, f2⟩ := HR.out
          go_wp2_with fail
          refine (isWrong_any _ _ _ _ ha H1.out).mono ?_
          rintro e W ⟨rfl, hb⟩
          have HA := Lib.hid (HA.out.kept hb)
          have HB := Lib.hid (HB.out.kept hb)
          have HR := Lib.hid (HR.out.kept hb)
          have HW := Lib.hid (bt HW.out hb)
          have HP := Lib.hid (HK.out _ _ HP.out hb)
          clear hb a0 a1 a2 b0 b1 b2 r0 r1 r2 f0 f1 f2
          obtain ⟨a0, a1, a2, _, _, _⟩ := HA.out
          obtain ⟨b0, b1, b2, _, _, _⟩ := HB.out
          obtain ⟨r0, r1, r2, f0, f1, f2⟩ := HR.out
          go_wp2_with fail
          refine (isWrong_any _ _ _ _ hb' H2.out).mono ?_
          rintro e W ⟨rfl, hb⟩
          have HA := Lib.hid (HA.out.kept hb)
          have HB := Lib.hid (HB.out.kept hb)
          have HR := Lib.hid (HR.out.kept hb)
          have HW := Lib.hid (bt HW.out hb)
          have HP := Lib.hid (HK.out _ _ HP.out hb)
          clear hb a0 a1 a2 b0 b1 b2 r0 r1 r2 f0 f1 f2
          obtain ⟨a0, a1, a2, _, _, _⟩ := HA.out
          obtain ⟨b0, b1, b2, _, _, _⟩ := HB.out
          obtain ⟨r0, r1, r2, f0, f1, f2⟩ := HR.out
          go_wp2_with fail
          refine (isNull_any _ _ _ _).mono ?_
          rintro e W ⟨rfl, hb⟩
          have HA := Lib.hid (HA.out.kept hb)
          have HB := Lib.hid (HB.out.kept hb)
          have HR := Lib.hid (HR.out.kept hb)
          have HW := Lib.hid (bt HW.out hb)
          have HP := Lib.hid (HK.out _ _ HP.out hb)
          clear hb a0 a1 a2 b0 b1 b2 r0 r1 r2 f0 f1 f2
          obtain ⟨a0, a1, a2, _, _, _⟩ := HA.out
          obtain ⟨b0, b1, b2, _, _, _⟩ := HB.out
          obtain ⟨r0, r1, r2, f0, f1, f2⟩ := HR.out
          go_wp2_with fail
          refine (isNull_any _ _ _ _).mono ?_
          rintro e W ⟨rfl, hb⟩
          have HA := Lib.hid (HA.out.kept hb)
          have HB := Lib.hid (HB.out.kept hb)
          have HR := Lib.hid (HR.out.kept hb)
          have HW := Lib.hid (bt HW.out hb)
          have HP := Lib.hid (HK.out _ _ HP.out hb)
          clear hb a0 a1 a2 b0 b1 b2 r0 r1 r2 f0 f1 f2
          obtain ⟨a0, a1, a2, _, _, _⟩ := HA.out
          obtain ⟨b0, b1, b2, _, _, _⟩ := HB.out
          obtain ⟨r0, r1, r2, f0, f1, f2⟩ := HR.out
          go_wp2_with fail
          refine (null_any _).mono ?_
          rintro e W ⟨rfl, hb⟩
          have HA := Lib.hid (HA.out.kept hb)
          have HB := Lib.hid (HB.out.kept hb)
          have HR := Lib.hid (HR.out.kept hb)
          have HW := Lib.hid (bt HW.out hb)
          have HP := Lib.hid (HK.out _ _ HP.out hb)
          clear hb a0 a1 a2 b0 b1 b2 r0 r1 r2 f0 f1 f2
          obtain ⟨a0, a1, a2, _, _, _⟩ := HA.out
          obtain ⟨b0, b1, b2, _, _, _⟩ := HB.out
          obtain ⟨r0, r1, r2, f0, f1, f2⟩ := HR.out
          go_wp2_with fail
          refine bodyPost_ret (v := .tuple #[VV 0 0 ⟨#[]⟩, .int .i64 0]) (by simp [results, Tryz.results35, go_sem, r0, r1, r2]) rfl ⟨?_, below_set3 HW.out (by omega)⟩
          rw [Hf.out]; rfl
        · have hkb' : (k' == 0) = false := by simpa using hk'
          have hi' := right_in h2 hk'
          have hr : reckA f ⟨k, n, s⟩ ⟨k', n', s'⟩ = fitI (f n n') := by rw [reckA, if_neg hno, if_neg (by rintro (h | h); exact hk h; exact hk' h)]
          have HG' := fun W hW => HG.out n n' W hW hi hi'
          cases hf : f n n' with
          | none =>
            rw [hf] at HG'
            have HF := Lib.hid (show ∀ W, P W → Calls Tryz.prog g #[.int .i64 n, .int .i64 n', p] W fun e W' => e = .returned (.tuple #[.int .i64 0, .bool false]) ∧ Below W.heap.size W W' from HG')
            have Hf := Lib.hid (show reckA f ⟨k, n, s⟩ ⟨k', n', s'⟩ = none by rw [hr, hf]; rfl)
            clear h1 h2 hno hk hk' hi hi' hr HG' hf
            go_enter Tryz.func35, Tryz.ntmps35
            go_upto_region 1 with fail
            generalize ((w.alloc (.cells #[.int .i64 k, .int .i64 n, .string s] 28)).alloc (.cells #[.int .i64 k', .int .i64 n', .string s'] 28)).alloc (.cells #[.int .i64 0, .int .i64 0, .string ⟨#[]⟩] 28) = W at HA HB HR HW HP ⊢
            obtain ⟨a0, a1, a2, _, _, _⟩ := HA.out
            obtain ⟨b0, b1, b2, _, _, _⟩ := HB.out
            obtain ⟨r0, r1, r2, f0, f1, f2⟩ := HR.out
            go_wp2_with fail
            refine (isWrong_any _ _ _ _ ha H1.out).mono ?_
            rintro e W ⟨rfl, hb⟩
            have HA := Lib.hid (HA.out.kept hb)
            have HB := Lib.hid (HB.out.kept hb)
            have HR := Lib.hid (HR.out.kept hb)
            have HW := Lib.hid (bt HW.out hb)
            have HP := Lib.hid (HK.out _ _ HP.out hb)
            clear hb a0 a1 a2 b0 b1 b2 r0 r1 r2 f0 f1 f2
            obtain ⟨a0, a1, a2, _, _, _⟩ := HA.out
            obtain ⟨b0, b1, b2, _, _, _⟩ := HB.out
            obtain ⟨r0, r1, r2, f0, f1, f2⟩ := HR.out
            go_wp2_with fail
            refine (isWrong_any _ _ _ _ hb' H2.out).mono ?_
            rintro e W ⟨rfl, hb⟩
            have HA := Lib.hid (HA.out.kept hb)
            have HB := Lib.hid (HB.out.kept hb)
            have HR := Lib.hid (HR.out.kept hb)
            have HW := Lib.hid (bt HW.out hb)
            have HP := Lib.hid (HK.out _ _ HP.out hb)
            clear hb a0 a1 a2 b0 b1 b2 r0 r1 r2 f0 f1 f2
            obtain ⟨a0, a1, a2, _, _, _⟩ := HA.out
            obtain ⟨b0, b1, b2, _, _, _⟩ := HB.out
            obtain ⟨r0, r1, r2, f0, f1, f2⟩ := HR.out
            go_wp2_with fail
            refine (isNull_any _ _ _ _).mono ?_
            rintro e W ⟨rfl, hb⟩
            have HA := Lib.hid (HA.out.kept hb)
            have HB := Lib.hid (HB.out.kept hb)
            have HR := Lib.hid (HR.out.kept hb)
            have HW := Lib.hid (bt HW.out hb)
            have HP := Lib.hid (HK.out _ _ HP.out hb)
            clear hb a0 a1 a2 b0 b1 b2 r0 r1 r2 f0 f1 f2
            obtain ⟨a0, a1, a2, _, _, _⟩ := HA.out
            obtain ⟨b0, b1, b2, _, _, _⟩ := HB.out
            obtain ⟨r0, r1, r2, f0, f1, f2⟩ := HR.out
            go_wp2_with fail
            refine (isNull_any _ _ _ _).mono ?_
            rintro e W ⟨rfl, hb⟩
            have HA := Lib.hid (HA.out.kept hb)
            have HB := Lib.hid (HB.out.kept hb)
            have HR := Lib.hid (HR.out.kept hb)
            have HW := Lib.hid (bt HW.out hb)
            have HP := Lib.hid (HK.out _ _ HP.out hb)
            clear hb a0 a1 a2 b0 b1 b2 r0 r1 r2 f0 f1 f2
            obtain ⟨a0, a1, a2, _, _, _⟩ := HA.out
            obtain ⟨b0, b1, b2, _, _, _⟩ := HB.out
            obtain ⟨r0, r1, r2, f0, f1, f2⟩ := HR.out
            go_wp2_with fail
            refine (HF.out _ HP.out).mono ?_
            rintro e W ⟨rfl, hb⟩
            have HA := Lib.hid (HA.out.kept hb)
            have HB := Lib.hid (HB.out.kept hb)
            have HR := Lib.hid (HR.out.kept hb)
            have HW := Lib.hid (bt HW.out hb)
            have HP := Lib.hid (HK.out _ _ HP.out hb)
            clear hb a0 a1 a2 b0 b1 b2 r0 r1 r2 f0 f1 f2
            obtain ⟨a0, a1, a2, _, _, _⟩ := HA.out
            obtain ⟨b0, b1, b2, _, _, _⟩ := HB.out
            obtain ⟨r0, r1, r2, f0, f1, f2⟩ := HR.out
            go_wp2_with fail
            refine (int_any _ _).mono ?_
            rintro e W ⟨rfl, hb⟩
            have HR := Lib.hid (HR.out.kept hb)
            have HW := Lib.hid (bt HW.out hb)
            clear hb a0 a1 a2 b0 b1 b2 r0 r1 r2 f0 f1 f2
            obtain ⟨r0, r1, r2, f0, f1, f2⟩ := HR.out.kept (ba W (vbox 2 0 ⟨#[]⟩))
            go_wp2_with fail
            refine bodyPost_ret (v := .tuple #[VV 0 0 ⟨#[]⟩, .int .i64 160]) (by simp [results, Tryz.results35, go_sem, r0, r1, r2]) rfl ⟨?_, below_set3 (bt HW.out (ba _ _)) (by omega)⟩
            rw [Hf.out]; rfl
          | some m =>
            rw [hf] at HG'
            have HF := Lib.hid (show ∀ W, P W → Calls Tryz.prog g #[.int .i64 n, .int .i64 n', p] W fun e W' => e = .returned (.tuple #[.int .i64 m, .bool true]) ∧ Below W.heap.size W W' from HG')
            have HC := check_any 2 m ⟨#[]⟩
            rw [ok_intA] at HC
            cases hm : inI m
            · have Hf := Lib.hid (show reckA f ⟨k, n, s⟩ ⟨k', n', s'⟩ = none by rw [hr, hf, fitI, if_neg (by rw [hm]; decide)])
              rw [hm] at HC
              have HC := Lib.hid HC
              clear h1 h2 hno hk hk' hi hi' hr HG' hf hm
              go_enter Tryz.func35, Tryz.ntmps35
              go_upto_region 1 with fail
              generalize ((w.alloc (.cells #[.int .i64 k, .int .i64 n, .string s] 28)).alloc (.cells #[.int .i64 k', .int .i64 n', .string s'] 28)).alloc (.cells #[.int .i64 0, .int .i64 0, .string ⟨#[]⟩] 28) = W at HA HB HR HW HP ⊢
              obtain ⟨a0, a1, a2, _, _, _⟩ := HA.out
              obtain ⟨b0, b1, b2, _, _, _⟩ := HB.out
              obtain ⟨r0, r1, r2, f0, f1, f2⟩ := HR.out
              go_wp2_with fail
              refine (isWrong_any _ _ _ _ ha H1.out).mono ?_
              rintro e W ⟨rfl, hb⟩
              have HA := Lib.hid (HA.out.kept hb)
              have HB := Lib.hid (HB.out.kept hb)
              have HR := Lib.hid (HR.out.kept hb)
              have HW := Lib.hid (bt HW.out hb)
              have HP := Lib.hid (HK.out _ _ HP.out hb)
              clear hb a0 a1 a2 b0 b1 b2 r0 r1 r2 f0 f1 f2
              obtain ⟨a0, a1, a2, _, _, _⟩ := HA.out
              obtain ⟨b0, b1, b2, _, _, _⟩ := HB.out
              obtain ⟨r0, r1, r2, f0, f1, f2⟩ := HR.out
              go_wp2_with fail
              refine (isWrong_any _ _ _ _ hb' H2.out).mono ?_
              rintro e W ⟨rfl, hb⟩
              have HA := Lib.hid (HA.out.kept hb)
              have HB := Lib.hid (HB.out.kept hb)
              have HR := Lib.hid (HR.out.kept hb)
              have HW := Lib.hid (bt HW.out hb)
              have HP := Lib.hid (HK.out _ _ HP.out hb)
              clear hb a0 a1 a2 b0 b1 b2 r0 r1 r2 f0 f1 f2
              obtain ⟨a0, a1, a2, _, _, _⟩ := HA.out
              obtain ⟨b0, b1, b2, _, _, _⟩ := HB.out
              obtain ⟨r0, r1, r2, f0, f1, f2⟩ := HR.out
              go_wp2_with fail
              refine (isNull_any _ _ _ _).mono ?_
              rintro e W ⟨rfl, hb⟩
              have HA := Lib.hid (HA.out.kept hb)
              have HB := Lib.hid (HB.out.kept hb)
              have HR := Lib.hid (HR.out.kept hb)
              have HW := Lib.hid (bt HW.out hb)
              have HP := Lib.hid (HK.out _ _ HP.out hb)
              clear hb a0 a1 a2 b0 b1 b2 r0 r1 r2 f0 f1 f2
              obtain ⟨a0, a1, a2, _, _, _⟩ := HA.out
              obtain ⟨b0, b1, b2, _, _, _⟩ := HB.out
              obtain ⟨r0, r1, r2, f0, f1, f2⟩ := HR.out
              go_wp2_with fail
              refine (isNull_any _ _ _ _).mono ?_
              rintro e W ⟨rfl, hb⟩
              have HA := Lib.hid (HA.out.kept hb)
              have HB := Lib.hid (HB.out.kept hb)
              have HR := Lib.hid (HR.out.kept hb)
              have HW := Lib.hid (bt HW.out hb)
              have HP := Lib.hid (HK.out _ _ HP.out hb)
              clear hb a0 a1 a2 b0 b1 b2 r0 r1 r2 f0 f1 f2
              obtain ⟨a0, a1, a2, _, _, _⟩ := HA.out
              obtain ⟨b0, b1, b2, _, _, _⟩ := HB.out
              obtain ⟨r0, r1, r2, f0, f1, f2⟩ := HR.out
              go_wp2_with fail
              refine (HF.out _ HP.out).mono ?_
              rintro e W ⟨rfl, hb⟩
              have HA := Lib.hid (HA.out.kept hb)
              have HB := Lib.hid (HB.out.kept hb)
              have HR := Lib.hid (HR.out.kept hb)
              have HW := Lib.hid (bt HW.out hb)
              have HP := Lib.hid (HK.out _ _ HP.out hb)
              clear hb a0 a1 a2 b0 b1 b2 r0 r1 r2 f0 f1 f2
              obtain ⟨a0, a1, a2, _, _, _⟩ := HA.out
              obtain ⟨b0, b1, b2, _, _, _⟩ := HB.out
              obtain ⟨r0, r1, r2, f0, f1, f2⟩ := HR.out
              go_wp2_with fail
              refine (int_any _ _).mono ?_
              rintro e W ⟨rfl, hb⟩
              have HA := Lib.hid (HA.out.kept hb)
              have HB := Lib.hid (HB.out.kept hb)
              have HR := Lib.hid (HR.out.kept hb)
              have HW := Lib.hid (bt HW.out hb)
              have HP := Lib.hid (HK.out _ _ HP.out hb)
              clear hb a0 a1 a2 b0 b1 b2 r0 r1 r2 f0 f1 f2
              obtain ⟨a0, a1, a2, _, _, _⟩ := HA.out
              obtain ⟨b0, b1, b2, _, _, _⟩ := HB.out
              obtain ⟨r0, r1, r2, f0, f1, f2⟩ := HR.out
              go_wp2_with fail
              refine (HC.out _ (by decide)).mono ?_
              rintro e W4 ⟨rfl, hb⟩
              have hb2 := bt (ba _ _) hb
              have HR := Lib.hid (HR.out.kept hb2)
              have HW := Lib.hid (bt HW.out hb2)
              obtain ⟨q0, q1, q2⟩ := box1 hb
              clear hb hb2 a0 a1 a2 b0 b1 b2 r0 r1 r2 f0 f1 f2
              obtain ⟨r0, r1, r2, f0, f1, f2⟩ := HR.out
              go_wp2_with fail
              refine bodyPost_ret (v := .tuple #[VV 0 0 ⟨#[]⟩, .int .i64 160]) (by simp [results, Tryz.results35, go_sem, r0, r1, r2]) rfl ⟨?_, below_set3 HW.out (by omega)⟩
              rw [Hf.out]; rfl
            · have Hf := Lib.hid (show reckA f ⟨k, n, s⟩ ⟨k', n', s'⟩ = some (intA m) by rw [hr, hf, fitI, if_pos hm])
              rw [hm] at HC
              have HC := Lib.hid HC
              clear h1 h2 hno hk hk' hi hi' hr HG' hf hm
              go_enter Tryz.func35, Tryz.ntmps35
              go_upto_region 1 with fail
              generalize ((w.alloc (.cells #[.int .i64 k, .int .i64 n, .string s] 28)).alloc (.cells #[.int .i64 k', .int .i64 n', .string s'] 28)).alloc (.cells #[.int .i64 0, .int .i64 0, .string ⟨#[]⟩] 28) = W at HA HB HR HW HP ⊢
              obtain ⟨a0, a1, a2, _, _, _⟩ := HA.out
              obtain ⟨b0, b1, b2, _, _, _⟩ := HB.out
              obtain ⟨r0, r1, r2, f0, f1, f2⟩ := HR.out
              go_wp2_with fail
              refine (isWrong_any _ _ _ _ ha H1.out).mono ?_
              rintro e W ⟨rfl, hb⟩
              have HA := Lib.hid (HA.out.kept hb)
              have HB := Lib.hid (HB.out.kept hb)
              have HR := Lib.hid (HR.out.kept hb)
              have HW := Lib.hid (bt HW.out hb)
              have HP := Lib.hid (HK.out _ _ HP.out hb)
              clear hb a0 a1 a2 b0 b1 b2 r0 r1 r2 f0 f1 f2
              obtain ⟨a0, a1, a2, _, _, _⟩ := HA.out
              obtain ⟨b0, b1, b2, _, _, _⟩ := HB.out
              obtain ⟨r0, r1, r2, f0, f1, f2⟩ := HR.out
              go_wp2_with fail
              refine (isWrong_any _ _ _ _ hb' H2.out).mono ?_
              rintro e W ⟨rfl, hb⟩
              have HA := Lib.hid (HA.out.kept hb)
              have HB := Lib.hid (HB.out.kept hb)
              have HR := Lib.hid (HR.out.kept hb)
              have HW := Lib.hid (bt HW.out hb)
              have HP := Lib.hid (HK.out _ _ HP.out hb)
              clear hb a0 a1 a2 b0 b1 b2 r0 r1 r2 f0 f1 f2
              obtain ⟨a0, a1, a2, _, _, _⟩ := HA.out
              obtain ⟨b0, b1, b2, _, _, _⟩ := HB.out
              obtain ⟨r0, r1, r2, f0, f1, f2⟩ := HR.out
              go_wp2_with fail
              refine (isNull_any _ _ _ _).mono ?_
              rintro e W ⟨rfl, hb⟩
              have HA := Lib.hid (HA.out.kept hb)
              have HB := Lib.hid (HB.out.kept hb)
              have HR := Lib.hid (HR.out.kept hb)
              have HW := Lib.hid (bt HW.out hb)
              have HP := Lib.hid (HK.out _ _ HP.out hb)
              clear hb a0 a1 a2 b0 b1 b2 r0 r1 r2 f0 f1 f2
              obtain ⟨a0, a1, a2, _, _, _⟩ := HA.out
              obtain ⟨b0, b1, b2, _, _, _⟩ := HB.out
              obtain ⟨r0, r1, r2, f0, f1, f2⟩ := HR.out
              go_wp2_with fail
              refine (isNull_any _ _ _ _).mono ?_
              rintro e W ⟨rfl, hb⟩
              have HA := Lib.hid (HA.out.kept hb)
              have HB := Lib.hid (HB.out.kept hb)
              have HR := Lib.hid (HR.out.kept hb)
              have HW := Lib.hid (bt HW.out hb)
              have HP := Lib.hid (HK.out _ _ HP.out hb)
              clear hb a0 a1 a2 b0 b1 b2 r0 r1 r2 f0 f1 f2
              obtain ⟨a0, a1, a2, _, _, _⟩ := HA.out
              obtain ⟨b0, b1, b2, _, _, _⟩ := HB.out
              obtain ⟨r0, r1, r2, f0, f1, f2⟩ := HR.out
              go_wp2_with fail
              refine (HF.out _ HP.out).mono ?_
              rintro e W ⟨rfl, hb⟩
              have HA := Lib.hid (HA.out.kept hb)
              have HB := Lib.hid (HB.out.kept hb)
              have HR := Lib.hid (HR.out.kept hb)
              have HW := Lib.hid (bt HW.out hb)
              have HP := Lib.hid (HK.out _ _ HP.out hb)
              clear hb a0 a1 a2 b0 b1 b2 r0 r1 r2 f0 f1 f2
              obtain ⟨a0, a1, a2, _, _, _⟩ := HA.out
              obtain ⟨b0, b1, b2, _, _, _⟩ := HB.out
              obtain ⟨r0, r1, r2, f0, f1, f2⟩ := HR.out
              go_wp2_with fail
              refine (int_any _ _).mono ?_
              rintro e W ⟨rfl, hb⟩
              have HA := Lib.hid (HA.out.kept hb)
              have HB := Lib.hid (HB.out.kept hb)
              have HR := Lib.hid (HR.out.kept hb)
              have HW := Lib.hid (bt HW.out hb)
              have HP := Lib.hid (HK.out _ _ HP.out hb)
              clear hb a0 a1 a2 b0 b1 b2 r0 r1 r2 f0 f1 f2
              obtain ⟨a0, a1, a2, _, _, _⟩ := HA.out
              obtain ⟨b0, b1, b2, _, _, _⟩ := HB.out
              obtain ⟨r0, r1, r2, f0, f1, f2⟩ := HR.out
              go_wp2_with fail
              refine (HC.out _ (by decide)).mono ?_
              rintro e W4 ⟨rfl, hb⟩
              have hb2 := bt (ba _ _) hb
              have HR := Lib.hid (HR.out.kept hb2)
              have HW := Lib.hid (bt HW.out hb2)
              obtain ⟨q0, q1, q2⟩ := box1 hb
              clear hb hb2 a0 a1 a2 b0 b1 b2 r0 r1 r2 f0 f1 f2
              obtain ⟨r0, r1, r2, f0, f1, f2⟩ := HR.out
              go_wp2_with fail
              refine bodyPost_ret (v := .tuple #[VV 2 m ⟨#[]⟩, .int .i64 0]) (by simp [results, Tryz.results35, go_sem, r0, r1, r2]) rfl ⟨?_, below_set3 HW.out (by omega)⟩
              rw [Hf.out]; rfl
    · have Hf := Lib.hid (show reckA f ⟨k, n, s⟩ ⟨k', n', s'⟩ = none by rw [reckA, if_pos (.inr h2)])
      have H1 := Lib.hid h1
      have H2 := Lib.hid h2
      clear h1 h2
      go_enter Tryz.func35, Tryz.ntmps35
      go_upto_region 1 with fail
      generalize ((w.alloc (.cells #[.int .i64 k, .int .i64 n, .string s] 28)).alloc (.cells #[.int .i64 k', .int .i64 n', .string s'] 28)).alloc (.cells #[.int .i64 0, .int .i64 0, .string ⟨#[]⟩] 28) = W at HA HB HR HW HP ⊢
      obtain ⟨a0, a1, a2, _, _, _⟩ := HA.out
      obtain ⟨b0, b1, b2, _, _, _⟩ := HB.out
      obtain ⟨r0, r1, r2, f0, f1, f2⟩ := HR.out
      go_wp2_with fail
      refine (isWrong_any _ _ _ _ ha H1.out).mono ?_
      rintro e W ⟨rfl, hb⟩
      have HA := Lib.hid (HA.out.kept hb)
      have HB := Lib.hid (HB.out.kept hb)
      have HR := Lib.hid (HR.out.kept hb)
      have HW := Lib.hid (bt HW.out hb)
      have HP := Lib.hid (HK.out _ _ HP.out hb)
      clear hb a0 a1 a2 b0 b1 b2 r0 r1 r2 f0 f1 f2
      obtain ⟨a0, a1, a2, _, _, _⟩ := HA.out
      obtain ⟨b0, b1, b2, _, _, _⟩ := HB.out
      obtain ⟨r0, r1, r2, f0, f1, f2⟩ := HR.out
      go_wp2_with fail
      refine (isWrong_any _ _ _ _ hb' H2.out).mono ?_
      rintro e W ⟨rfl, hb⟩
      have HA := Lib.hid (HA.out.kept hb)
      have HB := Lib.hid (HB.out.kept hb)
      have HR := Lib.hid (HR.out.kept hb)
      have HW := Lib.hid (bt HW.out hb)
      have HP := Lib.hid (HK.out _ _ HP.out hb)
      clear hb a0 a1 a2 b0 b1 b2 r0 r1 r2 f0 f1 f2
      obtain ⟨a0, a1, a2, _, _, _⟩ := HA.out
      obtain ⟨b0, b1, b2, _, _, _⟩ := HB.out
      obtain ⟨r0, r1, r2, f0, f1, f2⟩ := HR.out
      go_wp2_with fail
      refine bodyPost_ret (v := .tuple #[VV 0 0 ⟨#[]⟩, .int .i64 160]) (by simp [results, Tryz.results35, go_sem, r0, r1, r2]) rfl ⟨?_, below_set3 HW.out (by omega)⟩
      rw [Hf.out]; rfl
  · have Hf := Lib.hid (show reckA f ⟨k, n, s⟩ ⟨k', n', s'⟩ = none by rw [reckA, if_pos (.inl h1)])
    have H1 := Lib.hid h1
    clear h1
    go_enter Tryz.func35, Tryz.ntmps35
    go_upto_region 1 with fail
    generalize ((w.alloc (.cells #[.int .i64 k, .int .i64 n, .string s] 28)).alloc (.cells #[.int .i64 k', .int .i64 n', .string s'] 28)).alloc (.cells #[.int .i64 0, .int .i64 0, .string ⟨#[]⟩] 28) = W at HA HB HR HW HP ⊢
    obtain ⟨a0, a1, a2, _, _, _⟩ := HA.out
    obtain ⟨b0, b1, b2, _, _, _⟩ := HB.out
    obtain ⟨r0, r1, r2, f0, f1, f2⟩ := HR.out
    go_wp2_with fail
    refine (isWrong_any _ _ _ _ ha H1.out).mono ?_
    rintro e W ⟨rfl, hb⟩
    have HA := Lib.hid (HA.out.kept hb)
    have HB := Lib.hid (HB.out.kept hb)
    have HR := Lib.hid (HR.out.kept hb)
    have HW := Lib.hid (bt HW.out hb)
    have HP := Lib.hid (HK.out _ _ HP.out hb)
    clear hb a0 a1 a2 b0 b1 b2 r0 r1 r2 f0 f1 f2
    obtain ⟨a0, a1, a2, _, _, _⟩ := HA.out
    obtain ⟨b0, b1, b2, _, _, _⟩ := HB.out
    obtain ⟨r0, r1, r2, f0, f1, f2⟩ := HR.out
    go_wp2_with fail
    refine bodyPost_ret (v := .tuple #[VV 0 0 ⟨#[]⟩, .int .i64 160]) (by simp [results, Tryz.results35, go_sem, r0, r1, r2]) rfl ⟨?_, below_set3 HW.out (by omega)⟩
    rw [Hf.out]; rfl

theorem unless_any (a b : Int) (U g2 : Nat) (f : Int → Int → Int) (W : World) (hU : W.cell? ⟨U, 0, none⟩ = some (.func (.func g2) #[] #[])) (eg : ∀ args w, (callFunc g2 args).run Tryz.prog w = .ok (.enter g2 args) w)
    (hg : ∀ (a b : Int) (W : World), inI a = true → ¬ b = 0 → Calls Tryz.prog g2 #[.int .i64 a, .int .i64 b] W fun e W' => e = .returned (.int .i64 (f a b)) ∧ Below W.heap.size W W') (ha : inI a = true) :
    Calls Tryz.prog 79 #[.int .i64 a, .int .i64 b, .pointer (some ⟨U, 0, none⟩)] W fun e W' => e = .returned (fn2 (if b = 0 then none else some (f a b))) ∧ Below W.heap.size W W' := by
  have HG := Lib.hid hg
  clear hg
  obtain ⟨R, hR⟩ : ∃ R, fn2 (if b = 0 then none else some (f a b)) = R := ⟨_, rfl⟩
  rw [hR]
  by_cases h0 : b = 0
  · have HR := Lib.hid (show R = .tuple #[.int .i64 0, .bool false] by rw [← hR, if_pos h0]; rfl)
    clear hR
    subst h0
    go_enter Tryz.func79, Tryz.ntmps79
    go_wp2_with fail
    refine bodyPost_ret (v := .tuple #[.int .i64 0, .bool false]) (by simp [results, Tryz.results79, go_sem]) rfl ⟨by rw [HR.out], Below.refl _ _⟩
  · have hb : (b == 0) = false := by simpa using h0
    have HF := Lib.hid (HG.out a b W ha h0)
    have HR := Lib.hid (show R = .tuple #[.int .i64 (f a b), .bool true] by rw [← hR, if_neg h0]; rfl)
    clear h0 hR
    go_enter Tryz.func79, Tryz.ntmps79
    go_wp2_with fail
    refine HF.out.mono ?_
    rintro e W' ⟨rfl, hb1⟩
    go_wp2_with fail
    refine bodyPost_ret (v := .tuple #[.int .i64 (f a b), .bool true]) (by simp [results, Tryz.results79, go_sem]) rfl ⟨by rw [HR.out], hb1⟩
theorem unlessZero_any (g2 : Nat) (W : World) :
    Calls Tryz.prog 65 #[.func (.func g2) #[] #[]] W fun e W' => e = .returned (.func (.func 79) #[] #[.pointer (some ⟨W.heap.size, 0, none⟩)]) ∧ Below W.heap.size W W' ∧ W'.cell? ⟨W.heap.size, 0, none⟩ = some (.func (.func g2) #[] #[]) := by
  go_enter Tryz.func65, Tryz.ntmps65
  go_wp2_with fail
  go_ret
  exact ⟨rfl, ba _ _, by simp⟩
end Go.Proofs.YtpokpiphnggfpaaGreatDoor
end
