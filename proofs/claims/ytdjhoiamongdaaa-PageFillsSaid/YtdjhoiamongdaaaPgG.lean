/-
  The contract of page.Add.
-/
import Derived.Test.YtdjhoiamongdaaaPgF
import Derived.Test.YtdjhoiamongdaaaRApp
namespace Go.Proofs.Ytdjhoiamongdaaa
open Go.RowKit Go.Shelf

theorem run_copyB (ty : TypeId) (g e m L c : Nat) (A : Option Addr) (bs b : List Int) (W : World) (hg : OwnB W g bs) (hb : BytesAt W A b) (hL : b.length = L) (h0 : 0 < L) (hm : L ≤ m) (hfit : e + L ≤ bs.length) :
    (Builtin.copy_ #[25, 25] ty #[.slice (some ⟨g, e, none⟩) m m, .slice A L c]).run Try.prog W = .ok (.int .i64 (L : Int)) (W.setRow g (byteC (splice bs e b))) := by
  obtain ⟨i0, hi, hz0, hz1, hz2⟩ := info_parts info_byte
  rcases hb.1 with h1 | ⟨ba, off, rfl, hlt, hc⟩
  · simp at h1; subst h1; simp at hL; omega
  · have hrun := run_copy_row (P := Try.prog) W 25 25 ty 5 g e m m ⟨ba, off, none⟩ L c (byteC bs) 5 (b.map (Value.int .u8)) Try.underlying25 (by rw [hi]; simp [hz1]) hg
      (by rw [List.length_map, hL]; exact (Nat.min_eq_left hm).symm) (fun j v hv => by rw [← hc j v hv]; cases j <;> simp [Addr.add]) (by simp [byteC, hL]; omega) (int_one b)
    have e1 : ((byteC bs).toList.take e ++ b.map (Value.int .u8) ++ (byteC bs).toList.drop (e + (b.map (Value.int .u8)).length)).toArray = byteC (splice bs e b) := by
      simp [byteC, splice, List.map_take, List.map_drop]
    rw [e1, List.length_map, hL] at hrun
    exact hrun

theorem splice_all {l b : List Int} (h : l.length ≤ b.length) : splice l 0 b = b := by
  unfold splice
  rw [List.drop_eq_nil_of_le (by omega)]; simp
theorem Aside.below {g d B : Nat} {w w' : World} (h : Aside g d w w') (h1 : B ≤ g) (h2 : B ≤ d) : Below B w w' :=
  ⟨h.os, h.tape, h.output, Nat.le_of_eq h.size.symm, fun k hk => h.block k (by omega) (by omega)⟩
theorem putR_len (r : List Va) : (putR r).length = 1 + sumV r := by
  simp [putR, bodyR_length]; omega

/-- The ends of page.Add. -/
def AddEnd (w : World) (p : List Int) (r : List Va) (e : Ending) (w' : World) : Prop :=
  Below w.heap.size w w' ∧ match openP p with
  | none => e = .returned (.tuple #[.slice none 0 0, .int .i64 40])
  | some (rs, n) =>
    if okR r = true then
      if 253 < 1 + sumV r then e = .returned (.tuple #[.slice none 0 0, .int .i64 3])
      else if ((1 + sumV r : Nat) : Int) ≤ roomI rs.length n then ∃ g, e = .returned (.tuple #[.slice (some ⟨g, 0, none⟩) 256 256, .int .i64 0]) ∧ w.heap.size ≤ g ∧ OwnB w' g (putB p rs.length n (putR r))
      else e = .returned (.tuple #[.slice none 0 0, .int .i64 2])
    else e = .returned (.tuple #[.slice none 0 0, .int .i64 20])

set_option maxRecDepth 100000 in
set_option maxHeartbeats 1000000 in
theorem pageAdd_any (A : Option Addr) (L c : Nat) (p : List Int) (R : Option Addr) (cr : Nat) (r : List Va) (w : World) (h : BytesAt w A p) (hL : p.length = L) (hc : L ≤ c) (hr : RowAt w R r) (hf : Fine r) (hl : r.length ≤ 9223372036854775807) :
    Calls Try.prog 18 #[.slice A L c, .slice R r.length cr] w (AddEnd w p r) := by
  have HI := Lib.hid (open_any A L c p w h hL hc)
  have HA := Lib.hid h
  have HR := Lib.hid hr
  clear h hr
  unfold AddEnd
  cases ho : openP p with
  | none =>
    rw [ho] at HI
    clear ho
    go_enter Try.func18, Try.ntmps18
    go_wp2_with fail
    refine HI.out.mono ?_
    rintro e w1 ⟨hb, rfl⟩
    go_wp2_with fail
    go_ret2
    exact ⟨hb, rfl⟩
  | some q =>
    obtain ⟨rs, n⟩ := q
    rw [ho] at HI
    obtain ⟨hall, hfit, hmk, hne⟩ := openP_make HA.out.2 ho
    obtain ⟨_, hf2, hf3⟩ := fitsP_parts hfit
    have hlen := makeP_len hfit
    rw [hmk] at hlen
    obtain rfl : L = 256 := by omega
    have HM := Lib.hid hmk
    have HF := Lib.hid hfit
    have hn1 : 1 ≤ n := by omega
    have hn2 : n + 2 * rs.length ≤ 256 := by omega
    have HN := Lib.hid hne
    clear hmk hfit hne hall ho hlen hf2
    go_enter Try.func18, Try.ntmps18
    go_wp2_with fail
    refine HI.out.mono ?_
    rintro e w1 ⟨hb, A1, c1, rfl, _, _, hn⟩
    have HRB := Lib.hid (rowBytes_any R cr r w1 (HR.out.kept hb) hf hl)
    unfold RBEnd at HRB
    have HB1 := Lib.hid hb
    clear hb
    by_cases hok : okR r = true
    · by_cases hw : 253 < 1 + sumV r
      · simp only [if_pos hok, if_pos hw] at HRB ⊢
        go_wp2_with fail
        refine HRB.out.mono ?_
        rintro e w2 ⟨rfl, hb2⟩
        go_wp2_with fail
        go_ret2
        exact ⟨bt HB1.out hb2, rfl⟩
      · simp only [if_pos hok, if_neg hw] at HRB ⊢
        go_wp2_with fail
        refine HRB.out.mono ?_
        rintro e w2 ⟨g0, rfl, hbuf, hb2⟩
        go_wp2_with fail
        refine (pageNew_any w2).mono ?_
        rintro e w3 ⟨g, rfl, hg, hz, hb3⟩
        have HBf := Lib.hid hbuf
        have HB2 := Lib.hid (bt HB1.out hb2)
        have HB3 := Lib.hid hb3
        have HZ := Lib.hid hz
        clear hbuf hb2 hb3 hz
        subst hg
        obtain ⟨g, hg⟩ : ∃ g, g = w2.heap.size := ⟨_, rfl⟩
        rw [← hg] at HZ ⊢
        have HG := Lib.hid hg
        clear hg
        have HA4 := Lib.hid (((HA.out.kept HB2.out).kept HB3.out).kept (ba w3 (.cells #[.slice (some ⟨g, 0, none⟩) 256 256, .int .i64 n] 100)))
        have HD4 := Lib.hid (show DraftAt (w3.alloc (.cells #[.slice (some ⟨g, 0, none⟩) 256 256, .int .i64 n] 100)) w3.heap.size g n from heap_alloc_new w3 _)
        have HZ4 := Lib.hid (HZ.out.kept (ba w3 (.cells #[.slice (some ⟨g, 0, none⟩) 256 256, .int .i64 n] 100)))
        have HBf4 := Lib.hid (((HBf.out.bytes (putR_byte r hok)).kept HB3.out).kept (ba w3 (.cells #[.slice (some ⟨g, 0, none⟩) 256 256, .int .i64 n] 100)))
        have hcp := run_copyB 3 g 0 256 256 c A zeroP p _ HZ4.out HA4.out hL (by omega) (by omega) (by rw [show zeroP.length = 256 from rfl]; omega)
        go_wp2_with fail
        rw [splice_all (by rw [hL]; exact Nat.le_refl _)] at hcp ⊢
        have hgd : g < w3.heap.size := HZ.out.lt
        have hg0 : g0 < g := by rw [HG.out]; exact HBf.out.lt.2
        have hwg : w.heap.size ≤ g := by rw [HG.out]; exact HB2.out.size
        have HP5 := Lib.hid (show OwnB ((w3.alloc (.cells #[.slice (some ⟨g, 0, none⟩) 256 256, .int .i64 n] 100)).setRow g (byteC p)) g p from setRow_heap _ g _ _ _ _ HZ4.out)
        have HD5 := Lib.hid (show DraftAt ((w3.alloc (.cells #[.slice (some ⟨g, 0, none⟩) 256 256, .int .i64 n] 100)).setRow g (byteC p)) w3.heap.size g n from (setRow_other _ g _ _ (by omega)).trans HD4.out)
        have HF5 := Lib.hid (HBf4.out.else (w' := (w3.alloc (.cells #[.slice (some ⟨g, 0, none⟩) 256 256, .int .i64 n] 100)).setRow g (byteC p)) (g := g) (fun a ha => by cases ha; show g0 ≠ g; omega) (by simp [World.setRow]) (fun k hk => setRow_other _ g k _ hk))
        have HB5 := Lib.hid (show Below w.heap.size w ((w3.alloc (.cells #[.slice (some ⟨g, 0, none⟩) 256 256, .int .i64 n] 100)).setRow g (byteC p)) from below_setRow (bt (bt HB2.out HB3.out) (ba w3 _)) hwg _)
        generalize (w3.alloc (.cells #[.slice (some ⟨g, 0, none⟩) 256 256, .int .i64 n] 100)).setRow g (byteC p) = W5 at HP5 HD5 HF5 HB5 ⊢
        clear hcp HA4 HD4 HZ4 HBf4 HZ HBf HB3 HB2
        generalize w3.heap.size = d at hgd HD5 ⊢
        have hp0 : p.getD 0 0 = (rs.length : Int) := by rw [← HM.out]; rfl
        have HPL := Lib.hid (putR_len r)
        refine (fits_any d g n p _ _ _ rs.length W5 HD5.out HP5.out hL hp0 (by omega) (by omega)).mono ?_
        rintro e w6 ⟨rfl, m, rfl⟩
        by_cases hroom : ((1 + sumV r : Nat) : Int) ≤ roomI rs.length n
        · simp only [decide_eq_true hroom]
          have hfit2 : n + (1 + sumV r) ≤ 254 - 2 * rs.length := by unfold roomI at hroom; omega
          have HPUT := Lib.hid (put_any d g n p (some ⟨g0, 0, none⟩) (putR r) (1 + sumV r) (1 + sumV r) rs.length (W5.drewN m) HD5.out HP5.out hL hp0 (by omega) HF5.out (fun a ha => by cases ha; show g0 ≠ g; omega) HPL.out (by omega) hn1 hfit2 (by omega))
          go_wp2_with fail
          refine HPUT.out.mono ?_
          rintro e w7 ⟨rfl, hO, hD, hAs⟩
          have d0 : w7.cell? ⟨d, 0, none⟩ = some (.slice (some ⟨g, 0, none⟩) 256 256) := by unfold DraftAt at hD; simp [World.cell?, hD]
          have HO := Lib.hid hO
          have HAs := Lib.hid hAs
          clear hO hD hAs
          go_wp2_with fail
          go_ret2
          refine ⟨?_, g, rfl, hwg, HO.out⟩
          exact (show Below w.heap.size w (W5.drewN m) from ⟨HB5.out.os, HB5.out.tape, HB5.out.output, HB5.out.size, HB5.out.block⟩).trans (HAs.out.below hwg (by omega))
        · simp only [decide_eq_false hroom]
          go_wp2_with fail
          go_ret2
          exact ⟨⟨HB5.out.os, HB5.out.tape, HB5.out.output, HB5.out.size, HB5.out.block⟩, rfl⟩
    · simp only [if_neg hok] at HRB ⊢
      go_wp2_with fail
      refine HRB.out.mono ?_
      rintro e w2 ⟨rfl, hb2⟩
      go_wp2_with fail
      go_ret2
      exact ⟨bt HB1.out hb2, rfl⟩
end Go.Proofs.Ytdjhoiamongdaaa
